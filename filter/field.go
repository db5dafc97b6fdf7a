package filter

import (
	"millrace/api"
)

// field is which number of a packet is looked at.
type field int

// Fields, in the order of their names.
const (
	atField field = iota
	lenField
	flowField
	bandField
	markField
)

var fieldNames = [...]string{"at", "len", "flow", "band", "mark"}

// fieldOf is the field of a name.
func fieldOf(name string) (field, bool) {
	for i, known := range fieldNames {
		if known == name {
			return field(i), true
		}
	}
	return 0, false
}

func (f field) name() string { return fieldNames[f] }

// of is the number that a packet has there.
func (f field) of(x api.Item) int {
	switch f {
	case atField:
		return x.At
	case lenField:
		return x.Len
	case flowField:
		return x.Flow
	case bandField:
		return x.Band
	}
	return x.Mark
}
