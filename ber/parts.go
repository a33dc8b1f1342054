package ber

import "chatelaine/api"

// The forms of a length: one byte alone, or a byte that tells how many bytes of it follow.
const (
	mostShort = 127
	oneByte   = 129
	mostOfOne = 255
	twoBytes  = 130
	mostOfTwo = 65535
)

// allowed tells whether an element may have the tag. In BER five lowest bits that are all 1 say that the tag goes on, which in this subset none does.
func allowed(tag byte) bool { return tag&31 != 31 }

// hasList tells whether an element of the tag is made of others.
func hasList(tag byte) bool { return tag&32 != 0 }

// depth is a place among elements within elements.
type depth struct {
	outer int // how many elements the place is inside of
}

// full tells whether no element that is made of others may stand here.
func (d depth) full() bool { return d.outer >= api.MaxDeep }

// inner is the place inside an element that stands here.
func (d depth) inner() depth { return depth{outer: d.outer + 1} }
