package wfq

import (
	"slices"
	"strconv"
	"strings"
)

// whole is a number of any size, not below 0: its digits of 32 bits, the least one first, none of them a nought at the end.
// 0 has no digits. Nobody writes into one that is made, so that copies may share it.
type whole []uint32

const (
	digitBits = 32
	// A text is cut into so many decimal digits at once: the most of which each piece is below 2^32.
	pieceDigits = 9
	piece       = 1_000_000_000
)

// wholeOf is a number that is not below 0.
func wholeOf(n int) whole {
	return whole{uint32(n), uint32(n >> digitBits)}.trimmed()
}

// trimmed is without noughts at its end: each number has one form alone.
func (a whole) trimmed() whole {
	for len(a) > 0 && a[len(a)-1] == 0 {
		a = a[:len(a)-1]
	}
	if len(a) == 0 {
		return nil
	}
	return a
}

// digit is 0 beyond the last one.
func (a whole) digit(i int) uint64 {
	if i >= len(a) {
		return 0
	}
	return uint64(a[i])
}

func (a whole) cmp(b whole) int {
	if len(a) != len(b) {
		return sign(len(a) - len(b))
	}
	for i, x := range slices.Backward(a) {
		if x > b[i] {
			return 1
		}
		if x < b[i] {
			return -1
		}
	}
	return 0
}

func sign(n int) int {
	return min(max(n, -1), 1)
}

func (a whole) plus(b whole) whole {
	sum := make(whole, max(len(a), len(b))+1)
	carry := uint64(0)
	for i := range sum {
		carry += a.digit(i) + b.digit(i)
		sum[i] = uint32(carry)
		carry >>= digitBits
	}
	return sum.trimmed()
}

// minus is of one that is not above it.
func (a whole) minus(b whole) whole {
	rest := make(whole, len(a))
	borrow := uint64(0)
	for i := range rest {
		d := a.digit(i) - b.digit(i) - borrow
		rest[i] = uint32(d)
		borrow = d >> (2*digitBits - 1)
	}
	return rest.trimmed()
}

func (a whole) times(b whole) whole {
	product := make(whole, len(a)+len(b))
	for i, x := range a {
		carry := uint64(0)
		for j := range len(b) + 1 {
			carry += uint64(product[i+j]) + uint64(x)*b.digit(j)
			product[i+j] = uint32(carry)
			carry >>= digitBits
		}
	}
	return product.trimmed()
}

// by is so many times it.
func (a whole) by(n int) whole {
	return a.times(wholeOf(n))
}

// over divides by one digit, from 1 on, and tells what is left.
func (a whole) over(n int) (whole, int) {
	part := make(whole, len(a))
	rest := uint64(0)
	for i, x := range slices.Backward(a) {
		rest = rest<<digitBits | uint64(x)
		part[i] = uint32(rest / uint64(n))
		rest %= uint64(n)
	}
	return part.trimmed(), int(rest)
}

// text is its decimal digits.
func (a whole) text() string {
	var pieces []string
	for len(a) > 0 {
		part, rest := a.over(piece)
		digits := strconv.Itoa(rest)
		if len(part) > 0 {
			digits = strings.Repeat("0", pieceDigits-len(digits)) + digits
		}
		pieces = append(pieces, digits)
		a = part
	}
	if len(pieces) == 0 {
		return "0"
	}
	slices.Reverse(pieces)
	return strings.Join(pieces, "")
}
