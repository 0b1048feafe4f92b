package factor_test

import (
	"math"
	"slices"
	"testing"

	"credence/api"
	"credence/factor"
	"credence/nat"
)

// 13.1: Check and One.

// checkCode holds Check against its row.
func checkCode[T any](t *testing.T, b api.Box[T], want api.Errno) {
	t.Helper()
	if got := factor.Check(b); got != want {
		t.Fatalf("Check(%v / %v / %d cells): %v, want %v", b.Scope, b.Sizes, len(b.Cells), got, want)
	}
}

// TestExamplesOfCheck: the chapter's rows.
func TestExamplesOfCheck(t *testing.T) {
	for text, want := range map[string]api.Errno{
		"0 2 / 2 3 / 1 2 3 4 5 6": api.OK, " / / 1": api.OK, "2 0 / 3 2 / 1 2 3 4 5 6": api.ErrShape, "0 / 0 /": api.ErrShape, "0 / 2 / 1": api.ErrShape,
		"0 1 / 65536 65536 /": api.ErrMany,
	} {
		checkCode(t, table(text), want)
	}
}

func TestWrongTables(t *testing.T) {
	for text, want := range wrong() {
		checkCode(t, table(text), want)
		checkCode(t, words(text), want)
	}
}

// TestOrderOfErrorsOfCheck: what is wrong with scope and sizes is told ahead of
// how many there are, and that ahead of how many cells there are.
func TestOrderOfErrorsOfCheck(t *testing.T) {
	for text, want := range map[string]api.Errno{
		"0 / 65536 65536 /": api.ErrShape, "0 1 2 / 65536 65536 /": api.ErrShape, "1 0 / 65536 65536 /": api.ErrShape, "-1 0 / 65536 65536 /": api.ErrShape, "1 1 / 65536 65536 /": api.ErrShape,
		"0 1 2 / 65536 65536 0 /": api.ErrShape, "0 1 2 / 0 65536 65536 /": api.ErrShape, "0 1 2 / 65536 65536 -1 /": api.ErrShape, "0 1 2 / 65536 65536 -9223372036854775808 /": api.ErrShape,
		"0 1 / 65536 65536 / 1 2 3": api.ErrMany, "0 1 / 4294967296 4294967296 / 1": api.ErrMany, "0 1 / 3 6148914691236517206 / 1 2": api.ErrMany,
		"0 1 / 9223372036854775807 9223372036854775807 / 1": api.ErrMany, "0 1 2 / 2147483647 1 2 /": api.ErrMany, "0 1 / 46341 46341 /": api.ErrMany,
		"0 1 / 46340 46341 /": api.ErrShape, "0 / 2147483647 /": api.ErrShape, "0 / 2147483648 /": api.ErrMany,
	} {
		checkCode(t, table(text), want)
	}
}

// TestNumbersOfVariables: any number from 0 on is a variable.
func TestNumbersOfVariables(t *testing.T) {
	for text, want := range map[string]api.Errno{
		"0 / 1 / 1": api.OK, "9223372036854775807 / 1 / 1": api.OK, "0 9223372036854775807 / 1 2 / 1 2": api.OK, "9223372036854775806 9223372036854775807 / 1 1 / 1": api.OK,
		"-9223372036854775808 / 1 / 1": api.ErrShape, "-1 0 / 1 1 / 1": api.ErrShape, "9223372036854775807 0 / 1 1 / 1": api.ErrShape, "9223372036854775807 -9223372036854775808 / 1 1 / 1": api.ErrShape,
		"0 1 1 / 1 1 1 / 1": api.ErrShape, "0 2 1 / 1 1 1 / 1": api.ErrShape, "3 5 1024 / 1 1 1 / 1": api.OK,
	} {
		checkCode(t, table(text), want)
	}
}

// judged says by the chapter's words why a table of so many cells may not be.
func judged(scope, sizes []int, cells int) api.Errno {
	if len(scope) != len(sizes) || slices.ContainsFunc(scope, func(v int) bool { return v < 0 }) || slices.ContainsFunc(sizes, func(n int) bool { return n < 1 }) {
		return api.ErrShape
	}
	for i := range scope {
		if slices.Max(scope[:i+1]) != scope[i] || slices.Contains(scope[:i], scope[i]) {
			return api.ErrShape
		}
	}
	count := nat.Of(1)
	for _, n := range sizes {
		count = nat.Mul(count, nat.Of(uint64(n)))
	}
	switch {
	case nat.Cmp(count, nat.Of(api.MaxCount)) > 0:
		return api.ErrMany
	case nat.Cmp(count, nat.Of(uint64(cells))) != 0:
		return api.ErrShape
	}
	return api.OK
}

// TestAllShortTables: all short lists of what may be a variable or a size.
func TestAllShortTables(t *testing.T) {
	met := map[api.Errno]int{}
	for scope := range lists([]int{-1, 0, 1, 2, math.MaxInt}, 3) {
		for sizes := range lists([]int{-1, 0, 1, 2, 65536}, 3) {
			for _, cells := range []int{0, 1, 2, 3, 4, 8, 65536} {
				want := judged(scope, sizes, cells)
				met[want]++
				checkCode(t, api.Box[struct{}]{Scope: scope, Sizes: sizes, Cells: make([]struct{}, cells)}, want)
			}
		}
	}
	if met[api.OK] == 0 || met[api.ErrShape] == 0 || met[api.ErrMany] == 0 || len(met) != 3 {
		t.Errorf("errors met: %v", met)
	}
}

// TestGreatestTables: as many cells as there may be, of things that need no
// room.
func TestGreatestTables(t *testing.T) {
	for _, c := range []struct {
		sizes string
		cells int
		want  api.Errno
	}{
		{"2147483647", api.MaxCount, api.OK}, {"2147483647", api.MaxCount - 1, api.ErrShape}, {"2147483647", api.MaxCount + 1, api.ErrShape}, {"2147483648", api.MaxCount + 1, api.ErrMany},
		{"46340 46341", 46340 * 46341, api.OK}, {"46341 46341", 46341 * 46341, api.ErrMany}, {"2 1073741824", 1 << 31, api.ErrMany}, {"65536 65536", 1 << 32, api.ErrMany},
	} {
		b := api.Box[struct{}]{Sizes: list(c.sizes), Cells: make([]struct{}, c.cells)}
		for v := range b.Sizes {
			b.Scope = append(b.Scope, v)
		}
		checkCode(t, b, c.want)
	}
}

// TestLongScopes: there is no end to how many variables there are.
func TestLongScopes(t *testing.T) {
	b := api.Box[int]{Cells: []int{7}}
	for v := range 100000 {
		b.Scope, b.Sizes = append(b.Scope, v), append(b.Sizes, 1)
	}
	checkCode(t, b, api.OK)
	b.Sizes[99999] = 2
	checkCode(t, b, api.ErrShape)
	b.Cells = []int{7, 8}
	checkCode(t, b, api.OK)
	b.Scope[99999] = 99998
	checkCode(t, b, api.ErrShape)
}

// TestNoLists: nil and no elements are the same.
func TestNoLists(t *testing.T) {
	checkCode(t, api.Box[int]{Cells: []int{1}}, api.OK)
	checkCode(t, api.Box[int]{Scope: []int{}, Sizes: []int{}, Cells: []int{1}}, api.OK)
	checkCode(t, api.Box[int]{Scope: []int{}, Cells: []int{1}}, api.OK)
	checkCode(t, api.Box[int]{Sizes: []int{}}, api.ErrShape)
	checkCode(t, api.Box[int]{}, api.ErrShape)
	checkCode(t, api.Box[int]{Scope: []int{}, Sizes: []int{}, Cells: []int{}}, api.ErrShape)
}

// TestOne: the table of no variables holds what it is handed.
func TestOne(t *testing.T) {
	check(t, "One(7)", of(factor.One(7), api.OK), table(" / / 7"))
	check(t, "One(0)", of(factor.One(0), api.OK), table(" / / 0"))
	check(t, "One of a text", of(factor.One("x"), api.OK), words(" / / x"))
	checkCode(t, factor.One[error](nil), api.OK)
	checkCode(t, factor.One[func()](nil), api.OK)
	checkCode(t, factor.One(struct{}{}), api.OK)
	checkCode(t, factor.One(api.Rat{}), api.OK)
	if x, code := factor.Cell(factor.One(7), nil); x != 7 || code != api.OK {
		t.Errorf("the cell of One(7): %d, %v", x, code)
	}
}
