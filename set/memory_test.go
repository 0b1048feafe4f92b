package set_test

import (
	"cmp"
	"slices"
	"testing"

	"credence/samples"
	"credence/set"
)

// 11.4, R5: no set is ever changed, whatever becomes of lists.

// made are the lists of all sets that two lists make, and of one thing more.
func made[T cmp.Ordered](in [][]T, x T) [][]T {
	s, o := set.Of(in[0]...), set.Of(in[1]...)
	var out [][]T
	for _, each := range []set.Set[T]{s, o, s.With(x), s.Without(x), s.Join(o), s.Meet(o), s.Minus(o), o.Minus(s)} {
		out = append(out, each.List(), each.List())
	}
	return out
}

func checkAlone[T cmp.Ordered](t *testing.T, a, b []T, x T, marks samples.Marks[T]) {
	t.Helper()
	call := func(in [][]T) [][]T { return made(in, x) }
	if wrong := samples.Alone(call, [][]T{a, b}, marks); wrong != "" {
		t.Fatalf("%v, %v and %v: %s", a, b, x, wrong)
	}
}

// TestMemory: lists that are handed in are not changed, lists that are told
// share nothing.
func TestMemory(t *testing.T) {
	for a := range samples.ListsOf([]int{4, 1, 9}, 3) {
		for b := range samples.ListsOf([]int{4, 9, 6}, 2) {
			for _, x := range []int{0, 4, 5, 10} {
				checkAlone(t, a, b, x, samples.Marks[int]{Spare: 77, Ink: -77})
			}
		}
	}
	for a := range samples.ListsOf(words("b a"), 3) {
		checkAlone(t, a, words("c a b"), "aa", samples.Marks[string]{Spare: "spare", Ink: "ink"})
	}
}

// blot writes over a list and its spare room.
func blot(list []int) {
	list = list[:cap(list)]
	for i := range list {
		list[i] = -1000 - i
	}
}

// TestHandedIn: a list that was handed to Of may be written over, whether it
// had to be put in order or not.
func TestHandedIn(t *testing.T) {
	for _, in := range [][]int{{1, 2, 3}, {3, 2, 1}, {2, 2, 1, 3, 3}} {
		list := slices.Concat(in, []int{9, 9})[:len(in)]
		s := set.Of(list...)
		more, less := s.With(4), s.Without(2)
		if !slices.Equal(list[:len(in)+2], slices.Concat(in, []int{9, 9})) {
			t.Fatalf("%v became %v", in, list[:len(in)+2])
		}
		blot(list)
		check(t, "the set", s, []int{1, 2, 3}, 9, -1000)
		check(t, "With", more, []int{1, 2, 3, 4}, 9, -1000)
		check(t, "Without", less, []int{1, 3}, 9, -1000)
	}
}

// TestTold: a list that was told may be written over.
func TestTold(t *testing.T) {
	s := set.Of(3, 1, 2)
	var zero set.Set[int]
	// Sets that may hold the memory of s.
	for _, each := range []set.Set[int]{s, s.With(2), s.Without(7), s.Join(s), s.Join(zero), zero.Join(s), s.Meet(s), s.Minus(zero)} {
		list := each.List()
		again := each.List()
		blot(list)
		blot(list[len(list):])
		check(t, "the set", each, []int{1, 2, 3}, -1000)
		check(t, "the set that it was made of", s, []int{1, 2, 3}, -1000)
		if !slices.Equal(again, []int{1, 2, 3}) {
			t.Fatalf("two lists of a set share memory: %v", again)
		}
	}
	check(t, "the zero Set", zero, nil, 1, -1000)
}

// children are sets that are made of one, each by another call.
func children(s set.Set[int]) []set.Set[int] {
	var out []set.Set[int]
	for x := -1; x <= 9; x++ {
		out = append(out, s.With(x), s.Without(x), s.Join(set.Of(x, 20, 30)), set.Of(x, 20, 30).Join(s), s.Meet(set.Of(x, 3)), s.Minus(set.Of(x, 5)))
	}
	return out
}

// listed are the lists of some sets.
func listed(sets []set.Set[int]) [][]int {
	var out [][]int
	for _, s := range sets {
		out = append(out, s.List())
	}
	return out
}

// TestBranches: whatever is made of a set, or of what was made of it, neither
// it nor what was made before is changed: no spare room is used twice.
func TestBranches(t *testing.T) {
	for _, s := range children(set.Of(1, 3, 3, 5, 7, 7, 7)) {
		before := s.List()
		sets := children(s)
		want := listed(sets)
		for _, child := range sets {
			for _, grandchild := range children(child) {
				blot(grandchild.List())
			}
		}
		if got := listed(sets); !slices.EqualFunc(got, want, slices.Equal) {
			t.Fatalf("made of %v: %v, were %v", before, got, want)
		}
		check(t, "the set itself", s, before)
	}
}

// TestCopies: a set that is handed on is the same set, and stays it.
func TestCopies(t *testing.T) {
	s := set.Of(1, 2)
	kept := s
	s = s.With(3).Without(1)
	check(t, "the first one", kept, []int{1, 2}, 3)
	check(t, "the last one", s, []int{2, 3}, 1)
}
