package sep_test

import (
	"math/rand"
	"slices"
	"testing"

	"credence/api"
	"credence/dag"
	"credence/graph"
	"credence/samples"
	"credence/sep"
)

// 16.6: what follows.

// apart is Apart, which must go well.
func apart(t *testing.T, parents [][]int, a, b, given []int) bool {
	t.Helper()
	got, e := sep.Apart(parents, a, b, given)
	if e != api.OK {
		t.Fatalf("Apart(%v, %v; %v; %v): %v", parents, a, b, given, e)
	}
	return got
}

// checkEither: Apart says the same either way round, and what it says of the
// points one by one.
func checkEither(t *testing.T, parents [][]int, a, b, given []int) {
	t.Helper()
	want := true
	for _, x := range a {
		for _, y := range b {
			want = apart(t, parents, []int{x}, []int{y}, given) && want
		}
	}
	if one, other := apart(t, parents, a, b, given), apart(t, parents, b, a, given); one != want || other != want {
		t.Fatalf("Apart(%v, %v; %v; %v): %v, the other way round %v, one by one %v", parents, a, b, given, one, other, want)
	}
}

// checkKeptAway: given its blanket a point tells nothing of any other one, nor
// any other one of it.
func checkKeptAway(t *testing.T, parents [][]int, a int) {
	t.Helper()
	blanket, e := sep.Blanket(parents, a)
	if e != api.OK {
		t.Fatalf("Blanket(%v, %d): %v", parents, a, e)
	}
	if got, e := sep.Reach(parents, []int{a}, blanket); !slices.Equal(got, []int{a}) || e != api.OK {
		t.Fatalf("%v: %d tells something of %v, given %v, %v", parents, a, got, blanket, e)
	}
	others := slices.Delete(numbers(len(parents)), a, a+1)
	if !apart(t, parents, others, []int{a}, blanket) {
		t.Fatalf("%v: something tells something of %d, given %v", parents, a, blanket)
	}
}

// cut is whether each way through the graph that 16.6 names, from a to b, goes
// through a point that is given.
func cut(t *testing.T, parents [][]int, a, b, given []int) bool {
	t.Helper()
	above, e := dag.Above(parents, slices.Concat(a, b, given)...)
	if e != api.OK {
		t.Fatalf("Above: %v", e)
	}
	part := make([][]int, len(parents))
	for _, point := range above {
		part[point] = parents[point]
	}
	g, e := graph.Moral(part)
	if e != api.OK {
		t.Fatalf("Moral: %v", e)
	}
	free := slices.DeleteFunc(above, func(x int) bool { return slices.Contains(given, x) })
	for _, piece := range g.Among(free).Pieces() {
		in := func(x int) bool { return slices.Contains(piece, x) }
		if slices.ContainsFunc(a, in) && slices.ContainsFunc(b, in) {
			return false
		}
	}
	return true
}

// checkCut holds Apart against the graph of 16.6; no point is in two lists.
func checkCut(t *testing.T, parents [][]int, a, b, given []int) bool {
	t.Helper()
	want := cut(t, parents, a, b, given)
	if got := apart(t, parents, a, b, given); got != want {
		t.Fatalf("Apart(%v, %v; %v; %v): %v", parents, a, b, given, got)
	}
	return want
}

// TestSmallLaws: all parents of up to four points; each point is in a, in b,
// given, or none of these.
func TestSmallLaws(t *testing.T) {
	for parents := range small(4) {
		for a := range parents {
			checkKeptAway(t, parents, a)
		}
		for l := range samples.ListsOf(numbers(4), len(parents)) {
			if len(l) < len(parents) {
				continue
			}
			var in [4][]int
			for point, kind := range l {
				in[kind] = append(in[kind], point)
			}
			checkCut(t, parents, in[0], in[1], in[2])
		}
	}
}

// TestBothSides: all parents of three points, all lists; points in both of a and
// b too, or given.
func TestBothSides(t *testing.T) {
	for parents := range small(3) {
		for _, a := range choices(len(parents)) {
			for _, b := range choices(len(parents)) {
				for _, given := range choices(len(parents)) {
					checkEither(t, parents, a, b, given)
				}
			}
		}
	}
}

// TestDrawnLaws: more points.
func TestDrawnLaws(t *testing.T) {
	source := rand.New(rand.NewSource(166))
	apart, others := 0, 0
	for i := range 1500 {
		parents := drawn(source, 3+i%60, 1+i%3, false)
		names := source.Perm(len(parents))
		ends := 1 + source.Intn(min(3, len(names)-1))
		a, b, given := names[:1], names[1:ends], names[ends:ends+source.Intn(len(names)-ends+1)]
		if checkCut(t, parents, a, b, given) {
			apart++
		} else {
			others++
		}
		checkKeptAway(t, parents, a[0])
		if i%10 == 0 {
			checkEither(t, parents, some(source, len(parents), 10), some(source, len(parents), 10), some(source, len(parents), 20))
		}
	}
	if apart < 200 || others < 200 {
		t.Errorf("%d are apart, %d are not", apart, others)
	}
}

// TestShown: where points are not apart Trail shows a way that is open, and the
// same one backwards is open too; where they are it shows none.
func TestShown(t *testing.T) {
	source := rand.New(rand.NewSource(266))
	for i := range 600 {
		parents := drawn(source, 10+i%60, 2+i%2, false)
		given := some(source, len(parents), 10+i%40)
		a, b := source.Intn(len(parents)), source.Intn(len(parents))
		trail, e := sep.Trail(parents, a, b, given)
		back, f := sep.Trail(parents, b, a, given)
		if e != api.OK || f != api.OK || len(back) != len(trail) {
			t.Fatalf("Trail(%v, %d, %d; %v): %v, %v, the other way round %v, %v", parents, a, b, given, trail, e, back, f)
		}
		if apart(t, parents, []int{a}, []int{b}, given) {
			if len(trail) > 0 {
				t.Fatalf("Trail(%v, %d, %d; %v): %v, though they are apart", parents, a, b, given, trail)
			}
			continue
		}
		slices.Reverse(back)
		for _, l := range [][]int{trail, back} {
			if !isTrail(parents, l) || l[0] != a || l[len(l)-1] != b || !isOpen(parents, l, given) {
				t.Fatalf("Trail(%v, %d, %d; %v): %v", parents, a, b, given, l)
			}
		}
	}
}

// TestGreatestLaws: as many points as a graph may have.
func TestGreatestLaws(t *testing.T) {
	source := rand.New(rand.NewSource(366))
	for i := range 6 {
		parents := drawn(source, api.MaxVars, 1+i/3, false)
		names := source.Perm(len(parents))
		for _, given := range []int{0, 10, 100, 500} {
			checkCut(t, parents, names[:1], names[1:3], names[3:3+given])
		}
		checkKeptAway(t, parents, names[0])
	}
}
