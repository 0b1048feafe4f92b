package graph

import (
	"iter"
	"math/bits"

	"credence/api"
)

// wordBits is how many points a word of a set has bits for.
const wordBits = 64

// pointSet is a set of points, a bit for each: where a point is taken out, many
// sets are held against each other, which so goes by words, not by points.
type pointSet [(api.MaxVars + wordBits - 1) / wordBits]uint64

// has is whether a point is in.
func (p pointSet) has(a int) bool { return p[a/wordBits]>>(a%wordBits)&1 == 1 }

// with is the set with a point more.
func (p pointSet) with(a int) pointSet {
	p[a/wordBits] |= 1 << (a % wordBits)
	return p
}

// without is the set without a point.
func (p pointSet) without(a int) pointSet {
	p[a/wordBits] &^= 1 << (a % wordBits)
	return p
}

// join has what is in either.
func (p pointSet) join(o pointSet) pointSet {
	for i := range p {
		p[i] |= o[i]
	}
	return p
}

// meet has what is in both.
func (p pointSet) meet(o pointSet) pointSet {
	for i := range p {
		p[i] &= o[i]
	}
	return p
}

// minus has what is not in the other.
func (p pointSet) minus(o pointSet) pointSet {
	for i := range p {
		p[i] &^= o[i]
	}
	return p
}

// count is how many there are.
func (p pointSet) count() int {
	count := 0
	for _, word := range p {
		count += bits.OnesCount64(word)
	}
	return count
}

// each goes over the points, rising.
func (p pointSet) each() iter.Seq[int] {
	return func(yield func(int) bool) {
		for i, word := range p {
			for word != 0 {
				if !yield(i*wordBits + bits.TrailingZeros64(word)) {
					return
				}
				// The lowest bit, which was told, is taken away.
				word &= word - 1
			}
		}
	}
}
