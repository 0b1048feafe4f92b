package prune_test

import (
	"math/rand"
	"slices"
	"testing"

	"credence/api"
	"credence/prune"
	"credence/radix"
)

// 17.3: what follows, of the points' tables.

// prime is what all is reckoned by; what is made of small tables never comes to
// it, and is just.
const prime = 1<<31 - 1

// chances are tables for points, each row's entries whole together.
type chances struct {
	parents [][]int
	sizes   []int
	tables  [][]int
	whole   int
}

// fill lays a point's table out, or another one in its place.
func (c chances) fill(point int, row func(size int) []int) {
	rows := 1
	for _, parent := range c.parents[point] {
		rows *= c.sizes[parent]
	}
	c.tables[point] = nil
	for range rows {
		c.tables[point] = append(c.tables[point], row(c.sizes[point])...)
	}
}

// fewChances are tables of small numbers, many of them 0; points have from one
// value to three.
func fewChances(source *rand.Rand, parents [][]int) chances {
	c := chances{parents, make([]int, len(parents)), make([][]int, len(parents)), 6}
	for point := range c.sizes {
		c.sizes[point] = 1 + source.Intn(3)
	}
	for point := range parents {
		c.fill(point, func(size int) []int {
			row := make([]int, size)
			step := 1 + source.Intn(c.whole)
			for rest := c.whole; rest > 0; rest -= step {
				row[source.Intn(size)] += min(step, rest)
			}
			return row
		})
	}
	return c
}

// wildChances are tables of any numbers at all, of two values for each point: what
// holds of them by chance alone hardly ever does.
func wildChances(source *rand.Rand, parents [][]int) chances {
	c := chances{parents, slices.Repeat([]int{2}, len(parents)), make([][]int, len(parents)), 1}
	for point := range parents {
		c.fill(point, wildRow(source))
	}
	return c
}

// wildRow makes rows of two numbers that are 1 together.
func wildRow(source *rand.Rand) func(int) []int {
	return func(int) []int {
		one := source.Intn(prime)
		return []int{one, (1 + prime - one) % prime}
	}
}

// entry is what a point's table says where all points have some values.
func (c chances) entry(point int, values []int) int {
	return c.tables[point][c.place(append(slices.Clip(c.parents[point]), point), values)]
}

// place is which choice of the values of a list these are, the last ones
// changing fastest.
func (c chances) place(l, values []int) int {
	at := 0
	for _, point := range l {
		at = at*c.sizes[point] + values[point]
	}
	return at
}

// shares are, for each choice of values of what is asked, the product of the
// tables of some points, added up over all values of these points that are
// neither asked nor fixed. Fixed has -1 where a point may have any value.
func (c chances) shares(points, asked, fixed []int) []int {
	bases := slices.Repeat([]int{1}, len(c.parents))
	for _, point := range points {
		if fixed[point] < 0 {
			bases[point] = c.sizes[point]
		}
	}
	choices := 1
	for _, point := range asked {
		choices *= c.sizes[point]
	}
	out := make([]int, choices)
	for _, values := range radix.All(bases) {
		for point, value := range fixed {
			values[point] = max(values[point], value)
		}
		product := 1
		for _, point := range points {
			product = product * c.entry(point, values) % prime
		}
		at := c.place(asked, values)
		out[at] = (out[at] + product) % prime
	}
	return out
}

// total is all shares together.
func total(shares []int) int {
	sum := 0
	for _, share := range shares {
		sum = (sum + share) % prime
	}
	return sum
}

// alike is whether two lists of shares say the same of what is asked: whether
// there is one factor between the first and the second.
func alike(first, second []int) bool {
	one, other := total(first), total(second)
	for i := range first {
		if first[i]*other%prime != second[i]*one%prime {
			return false
		}
	}
	return other != 0 || one == 0
}

// checkSums holds what the tables that are kept say of what is asked against
// what all tables say; it tells whether what is given can come.
func checkSums(t *testing.T, c chances, asked, given, fixed []int) bool {
	t.Helper()
	free := slices.DeleteFunc(slices.Sorted(slices.Values(asked)), func(x int) bool { return slices.Contains(given, x) })
	free = slices.Compact(free)
	all := c.shares(numbers(len(c.parents)), free, fixed)
	for _, w := range eachWay() {
		points := kept(t, c.parents, asked, given, w)
		part := c.shares(points, free, fixed)
		if w.apart {
			if !alike(all, part) {
				t.Fatalf("%v, %v; given %v; %v: %v say %v, all say %v", c, asked, given, w, points, part, all)
			}
			continue
		}
		for range len(c.parents) - len(points) {
			for i := range part {
				part[i] = part[i] * c.whole % prime
			}
		}
		if !slices.Equal(part, all) {
			t.Fatalf("%v, %v; given %v; %v: %v say %v, all say %v", c, asked, given, w, points, part, all)
		}
	}
	return total(all) > 0
}

// drawnValues are values of what is given, and -1 of the other points.
func drawnValues(source *rand.Rand, c chances, given []int) []int {
	fixed := slices.Repeat([]int{-1}, len(c.parents))
	for _, point := range given {
		fixed[point] = source.Intn(c.sizes[point])
	}
	return fixed
}

// TestSmallSums: all parents of up to three points, all that can be asked and
// given, each with some tables and values.
func TestSmallSums(t *testing.T) {
	source := rand.New(rand.NewSource(373))
	for parents := range small(3) {
		for _, asked := range choices(len(parents)) {
			for _, given := range choices(len(parents)) {
				for range 5 {
					few, wild := fewChances(source, parents), wildChances(source, parents)
					checkSums(t, few, asked, given, drawnValues(source, few, given))
					checkSums(t, wild, asked, given, drawnValues(source, wild, given))
				}
			}
		}
	}
}

// TestDrawnSums: more points; what is given can come, or can't.
func TestDrawnSums(t *testing.T) {
	source := rand.New(rand.NewSource(473))
	times := [2]int{}
	for i := range 3000 {
		parents := drawn(source, 3+i%4, 1+i%3, false)
		asked, given := some(source, len(parents), 10+i%40), some(source, len(parents), i%70)
		few := fewChances(source, parents)
		if checkSums(t, few, asked, given, drawnValues(source, few, given)) {
			times[1]++
		} else {
			times[0]++
		}
	}
	if times[0] < 300 || times[1] < 300 {
		t.Errorf("what is given can't come %d times, and can %d times", times[0], times[1])
	}
}

// TestTold: all parents of up to four points, each point asked, given, or
// neither: where another table stands in the place of one that tells nothing,
// what is told of what is asked stays the same; else it does not.
func TestTold(t *testing.T) {
	source := rand.New(rand.NewSource(573))
	for parents := range small(4) {
		for asked, given := range roles(len(parents)) {
			checkTold(t, source, parents, asked, given)
		}
	}
}

// checkTold puts another table in the place of each in turn. No point is both
// asked and given; asked rises.
func checkTold(t *testing.T, source *rand.Rand, parents [][]int, asked, given []int) {
	t.Helper()
	points, e := prune.Kept(parents, asked, given, false, true)
	if e != api.OK {
		t.Fatalf("Kept(%v, %v; given %v; apart): %v", parents, asked, given, e)
	}
	c := wildChances(source, parents)
	fixed := drawnValues(source, c, given)
	was := c.shares(numbers(len(parents)), asked, fixed)
	for point, table := range c.tables {
		c.fill(point, wildRow(source))
		is := c.shares(numbers(len(parents)), asked, fixed)
		c.tables[point] = table
		if alike(was, is) == slices.Contains(points, point) {
			t.Fatalf("Kept(%v, %v; given %v; apart): %v: with another table of %d what was %v is %v", parents, asked, given, points, point, was, is)
		}
	}
}
