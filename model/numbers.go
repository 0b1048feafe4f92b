package model

import (
	"math"
	"slices"

	"credence/api"
	"credence/frac"
	"credence/radix"
)

// one is the number 1.
func one() api.Rat {
	x, _ := frac.Of(1, 1)
	return x
}

// normal is a number as it should be, in memory of its own.
func normal(x api.Rat) api.Rat { return frac.Sum(x) }

// isChance is whether a number is one from 0 to 1.
func isChance(x api.Rat) bool { return frac.Sign(x) >= 0 && frac.Cmp(x, one()) <= 0 }

// areChances is whether all of a table are.
func areChances(table []api.Rat) bool {
	return !slices.ContainsFunc(table, func(x api.Rat) bool { return !isChance(x) })
}

// areWhole is whether the numbers of each row are 1 together; a row has at
// least one.
func areWhole(table []api.Rat, width int) bool {
	for row := range slices.Chunk(table, width) {
		if frac.Cmp(byHalves(row, frac.Add), one()) != 0 {
			return false
		}
	}
	return true
}

// byHalves is what some numbers, at least one, are joined to. One by one would
// be dearer: what has grown long would be gone through each time.
func byHalves(l []api.Rat, join func(a, b api.Rat) api.Rat) api.Rat {
	if len(l) == 1 {
		return l[0]
	}
	half := len(l) / 2
	return join(byHalves(l[:half], join), byHalves(l[half:], join))
}

// count is how many choices of values there are. Where they are more than can
// be counted they are more than any list has things.
func count(sizes []int) int {
	choices, code := radix.Count(sizes)
	if code != api.OK {
		return math.MaxInt
	}
	return choices
}

// picked are those of some numbers that stand at some places.
func picked(numbers, places []int) []int {
	out := make([]int, len(places))
	for i, at := range places {
		out[i] = numbers[at]
	}
	return out
}
