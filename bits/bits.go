// Package bits is layer 2, sets of numbers: see shared/doc/02-bits.md.
package bits

import (
	"math/bits"

	"grammarlab/api"
)

// wordSize is the number of bits of a word of a set.
const wordSize = 64

// Of returns the set of some numbers.
func Of(l ...int) (api.Bits, api.Errno) {
	var b api.Bits
	for _, i := range l {
		if i < 0 || i > api.MaxBit {
			return nil, api.ErrRange
		}
		for len(b) <= i/wordSize {
			b = append(b, 0)
		}
		b[i/wordSize] |= 1 << (i % wordSize)
	}
	return b, api.OK
}

// List returns the elements of a set, ascending.
func List(b api.Bits) []int {
	l := make([]int, 0, Count(b))
	for i, w := range b {
		for ; w != 0; w &= w - 1 { // w & (w-1) is w without its least bit
			l = append(l, i*wordSize+bits.TrailingZeros64(w))
		}
	}
	return l
}

// Has reports whether a set has an element.
func Has(b api.Bits, i int) bool {
	return i >= 0 && word(b, i/wordSize)>>(i%wordSize)&1 == 1
}

// And returns the intersection of two sets.
func And(a, b api.Bits) api.Bits {
	c := make(api.Bits, min(len(a), len(b)))
	for i := range c {
		c[i] = a[i] & b[i]
	}
	return normal(c)
}

// Or returns the union of two sets.
func Or(a, b api.Bits) api.Bits {
	c := make(api.Bits, max(len(a), len(b)))
	for i := range c {
		c[i] = word(a, i) | word(b, i)
	}
	return normal(c)
}

// Minus returns the elements of a that b does not have.
func Minus(a, b api.Bits) api.Bits {
	c := make(api.Bits, len(a))
	for i, w := range a {
		c[i] = w &^ word(b, i)
	}
	return normal(c)
}

// Subset reports whether b has all elements of a.
func Subset(a, b api.Bits) bool {
	for i, w := range a {
		if w&^word(b, i) != 0 {
			return false
		}
	}
	return true
}

// Equal reports whether two sets have the same elements.
func Equal(a, b api.Bits) bool {
	return Subset(a, b) && Subset(b, a)
}

// Count returns the number of elements.
func Count(b api.Bits) int {
	n := 0
	for _, w := range b {
		n += bits.OnesCount64(w)
	}
	return n
}

// word returns a word of a set, which is 0 after its last one.
func word(b api.Bits, i int) uint64 {
	if i < len(b) {
		return b[i]
	}
	return 0
}

// normal returns a set without the zero words at its end.
func normal(b api.Bits) api.Bits {
	n := len(b)
	for n > 0 && b[n-1] == 0 {
		n--
	}
	return b[:n]
}
