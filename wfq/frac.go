package wfq

// Frac is an exact fraction; its zero value is 0.
type Frac struct {
	over  whole
	under whole // without digits where the fraction is a whole number: its zero value is 0, lowered
}

// lowered divides a number by the product of factors, each from 1 to 2^32 - 1.
// One factor at a time is enough: what is lowered by one has nothing in common with what is left of it,
// and dividing it by something more doesn't change that.
func lowered(over whole, factors ...int) Frac {
	under := wholeOf(1)
	for _, n := range factors {
		_, rest := over.over(n)
		shared := common(n, rest)
		over, _ = over.over(shared)
		under = under.by(n / shared)
	}
	if under.cmp(wholeOf(1)) == 0 {
		under = nil
	}
	return Frac{over: over, under: under}
}

// common is the greatest number that divides both (EUCLID).
func common(a, b int) int {
	for b > 0 {
		a, b = b, a%b
	}
	return a
}

// bottom is what it is divided by.
func (a Frac) bottom() whole {
	if len(a.under) == 0 {
		return wholeOf(1)
	}
	return a.under
}

// Text writes it: lowered, a whole number alone.
func (a Frac) Text() (_ string) {
	if len(a.under) == 0 {
		return a.over.text()
	}
	return a.over.text() + "/" + a.under.text()
}

// Cmp is -1, 0 or 1: below, like, above another one.
func (a Frac) Cmp(b Frac) (_ int) {
	return a.over.times(b.bottom()).cmp(b.over.times(a.bottom()))
}
