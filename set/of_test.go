package set_test

import (
	"cmp"
	"math"
	"math/rand"
	"slices"
	"strconv"
	"testing"

	"credence/samples"
	"credence/set"
)

// 11.1: Of, List, Len, Has.

// TestExamplesOfOf: the chapter's rows.
func TestExamplesOfOf(t *testing.T) {
	s := set.Of(3, 1, 3, 2)
	if got := s.List(); !slices.Equal(got, []int{1, 2, 3}) || s.Len() != 3 || !s.Has(3) || s.Has(4) {
		t.Errorf("Of(3, 1, 3, 2): %v, %d, %v, %v", got, s.Len(), s.Has(3), s.Has(4))
	}
	got := set.Of(0.0, math.NaN(), minus0, math.NaN(), -1).List()
	if len(got) != 3 || !math.IsNaN(got[0]) || got[1] != -1 || got[2] != 0 || math.Signbit(got[2]) {
		t.Errorf("Of(0.0, NaN, -0, NaN, -1): %v", got)
	}
	var none set.Set[int]
	if none.Len() != 0 || none.Has(0) || len(none.List()) != 0 {
		t.Errorf("the zero Set: %d, %v, %v", none.Len(), none.Has(0), none.List())
	}
}

// TestNothing: sets without things, however they are made.
func TestNothing(t *testing.T) {
	var zero set.Set[string]
	for what, s := range map[string]set.Set[string]{
		"the zero Set": zero, "Of()": set.Of[string](), "Of(nil)": set.Of([]string(nil)...), "Of of an empty list": set.Of([]string{}...),
		"Without the last": set.Of("a").Without("a"), "Without of nothing": zero.Without("a"), "Join of nothing": zero.Join(zero),
		"Meet of nothing": zero.Meet(set.Of("a")), "Meet of others": set.Of("b").Meet(set.Of("a")), "Minus of nothing": zero.Minus(set.Of("a")), "Minus of itself": set.Of("a").Minus(set.Of("a")),
	} {
		check(t, what, s, nil, "", "a", "b")
		check(t, what+", With", s.With("a"), []string{"a"}, "", "b")
		check(t, what+", Join", s.Join(set.Of("b")), []string{"b"}, "", "a")
		if !s.Same(zero) || !zero.Same(s) || !s.Within(zero) || s.Same(set.Of("")) || !s.Within(set.Of("")) || set.Of("").Within(s) {
			t.Errorf("%s: Same or Within", what)
		}
	}
}

// checkOf holds Of against its judge.
func checkOf[T cmp.Ordered](t *testing.T, list []T, others ...T) {
	t.Helper()
	check(t, "Of", set.Of(list...), rising(list), others...)
}

// TestSmallOfs: all short lists out of few things.
func TestSmallOfs(t *testing.T) {
	for list := range samples.ListsOf([]int{-2, 0, 1, 5}, 6) {
		checkOf(t, list, math.MinInt, -3, -2, -1, 0, 1, 2, 4, 5, 6, math.MaxInt)
	}
	for list := range samples.ListsOf(words("a b ab"), 5) {
		checkOf(t, list, "", "a", "aa", "ab", "abc", "b", "c")
	}
}

// TestFloats: things that are the same without being alike; the first stays.
func TestFloats(t *testing.T) {
	for list := range samples.ListsOf(floats(), 4) {
		checkOf(t, list, floats()...)
	}
}

// TestNamedFirst: which of the same things it is, written out.
func TestNamedFirst(t *testing.T) {
	check(t, "0, -0", set.Of(0, minus0), []float64{0}, minus0, 0)
	check(t, "-0, 0", set.Of(minus0, 0), []float64{minus0}, minus0, 0)
	check(t, "one NaN and another", set.Of(first, second), []float64{first}, first, second, 0)
	check(t, "another NaN and one", set.Of(second, first), []float64{second}, first, second, 0)
	check(t, "1, -0, 0, NaN", set.Of(1, minus0, 0, second, first), []float64{second, minus0, 1}, math.Inf(-1), math.Inf(1))
}

// TestLongFloats: the first stays in lists of any length, also where a sort
// goes by other ways than in short ones.
func TestLongFloats(t *testing.T) {
	source := rand.New(rand.NewSource(111))
	for _, length := range []int{10, 13, 21, 50, 200, 1000} {
		for range 30 {
			list := make([]float64, length)
			for i := range list {
				list[i] = floats()[source.Intn(len(floats()))]
			}
			checkOf(t, list, floats()...)
		}
	}
}

// TestLongOfs: many things, with and without repeats, rising and falling too.
func TestLongOfs(t *testing.T) {
	source := rand.New(rand.NewSource(211))
	for _, most := range []int{1, 10, 300, 1 << 40} {
		list := make([]int, 500)
		for i := range list {
			list[i] = source.Intn(most) - most/2
		}
		checkOf(t, list, -1, 0, 1, most)
		slices.Sort(list)
		checkOf(t, list, -1, 0, 1, most)
		slices.Reverse(list)
		checkOf(t, list, -1, 0, 1, most)
	}
}

// TestManyThings: a great list is no burden, and each thing is found.
func TestManyThings(t *testing.T) {
	const count = 200000
	list := make([]int, 0, 2*count)
	for i := range count {
		list = append(list, 2*(count-i), 2*(i+1))
	}
	s := set.Of(list...)
	if s.Len() != count {
		t.Fatalf("%d things", s.Len())
	}
	for i, x := range s.List() {
		if x != 2*(i+1) || !s.Has(x) || s.Has(x-1) {
			t.Fatalf("%d at %d", x, i)
		}
	}
}

// TestBytes: texts are held against each other byte by byte, not by letters.
func TestBytes(t *testing.T) {
	checkOf(t, []string{"\xff", "é", "z", "", "a\x00", "a", "Z", "é", "e\u0301", "\x00"}, "A", "e", "\xfe")
	check(t, "texts", set.Of("b", "\xff", "", "B", "é", "aa", "a"), []string{"", "B", "a", "aa", "b", "é", "\xff"}, "A", "ab")
	var want []string
	for i := range 30 {
		want = append(want, "x"+strconv.Itoa(i))
	}
	s := set.Of(want...)
	slices.Sort(want)
	check(t, "x0 to x29", s, want, "x", "x30", "x2 ")
}

// TestTypes: whatever has an order, its ends too.
func TestTypes(t *testing.T) {
	checkOf(t, []int8{127, -128, 0, -1, 127, 1}, 126, -127)
	checkOf(t, []int16{math.MaxInt16, math.MinInt16, 0}, 1)
	checkOf(t, []int32{math.MaxInt32, math.MinInt32, 0}, 1)
	checkOf(t, []int64{math.MaxInt64, math.MinInt64, 0, -1}, 1)
	checkOf(t, []int{math.MaxInt, math.MinInt, 0, math.MinInt}, 1)
	checkOf(t, []uint{math.MaxUint, 0, 1 << 63, 1<<63 - 1}, 1)
	checkOf(t, []uint8{255, 0, 128, 127}, 1)
	checkOf(t, []uint16{math.MaxUint16, 0, 1 << 15}, 1)
	checkOf(t, []uint32{math.MaxUint32, 0, 1 << 31}, 1)
	checkOf(t, []uint64{math.MaxUint64, 0, 1 << 63}, 1)
	checkOf(t, []uintptr{9, 0, 1 << 40}, 1)
	checkOf(t, []float32{math.MaxFloat32, -math.MaxFloat32, 0.5}, 1)
	checkOf(t, []name{"b", "a", "b"}, "c")
	checkOf(t, []digit{3, -3, 3}, 0)
	checkOf(t, []share{0.5, -0.5, 0.5}, 0)
	nan := share(math.NaN())
	if s := set.Of(nan, 1, nan, share(minus0), 0); s.Len() != 3 || !s.Has(nan) || !s.Has(0) || !math.Signbit(float64(s.List()[1])) {
		t.Errorf("shares: %v", s.List())
	}
	if s := set.Of(float32(minus0), 0, float32(math.NaN())); s.Len() != 2 || !s.Has(float32(math.NaN())) || !math.Signbit(float64(s.List()[1])) {
		t.Errorf("floats of 32 bits: %v", s.List())
	}
}
