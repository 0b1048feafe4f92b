package factor_test

import (
	"math/rand"
	"slices"
	"strconv"
	"strings"
	"testing"

	"credence/api"
	"credence/factor"
	"credence/ring"
	"credence/samples"
)

// numbers is the ring of most of these tests.
var numbers ring.Ring[int] = ring.Ints{}

// list and lists are short names for what samples makes.
var (
	list  = samples.List
	lists = samples.ListsOf[int]
)

// words is a table of texts as the chapter's examples write it: Scope / Sizes /
// Cells.
func words(text string) api.Box[string] {
	parts := strings.Split(text, "/")
	if len(parts) != 3 {
		panic(text + " is no table")
	}
	return api.Box[string]{Scope: list(parts[0]), Sizes: list(parts[1]), Cells: strings.Fields(parts[2])}
}

// table is a table of ints, written likewise.
func table(text string) api.Box[int] {
	b := words(text)
	return api.Box[int]{Scope: b.Scope, Sizes: b.Sizes, Cells: list(strings.Join(b.Cells, " "))}
}

// alike is whether two tables have the same lists.
func alike[T comparable](a, b api.Box[T]) bool {
	return slices.Equal(a.Scope, b.Scope) && slices.Equal(a.Sizes, b.Sizes) && slices.Equal(a.Cells, b.Cells)
}

// answer is what a call answers of which a table is the first thing.
type answer[T any] struct {
	box  api.Box[T]
	code api.Errno
}

// of is the answer of a call.
func of[T any](box api.Box[T], code api.Errno) answer[T] { return answer[T]{box, code} }

// check holds a table that is answered against the one that it should be.
func check[T comparable](t *testing.T, what string, got answer[T], want api.Box[T]) {
	t.Helper()
	if got.code != api.OK || !alike(got.box, want) {
		t.Fatalf("%s: %v, %v, want %v", what, got.box, got.code, want)
	}
	if code := factor.Check(got.box); code != api.OK {
		t.Fatalf("%s: %v may not be: %v", what, got.box, code)
	}
}

// refused looks for an error with nothing beside it.
func refused[T any](t *testing.T, what string, got answer[T], want api.Errno) {
	t.Helper()
	if got.code != want || len(got.box.Scope)+len(got.box.Sizes)+len(got.box.Cells) > 0 {
		t.Fatalf("%s: %v, %v, want %v", what, got.box, got.code, want)
	}
}

// expect is check or refused, as the code says.
func expect[T comparable](t *testing.T, what string, got answer[T], want api.Box[T], code api.Errno) {
	t.Helper()
	if code == api.OK {
		check(t, what, got, want)
	} else {
		refused(t, what, got, code)
	}
}

// choices are all choices of values, in order: each of the first variable's,
// with all that may follow.
func choices(sizes []int) [][]int {
	if len(sizes) == 0 {
		return [][]int{nil}
	}
	rest := choices(sizes[1:])
	var out [][]int
	for first := range sizes[0] {
		for _, more := range rest {
			out = append(out, append([]int{first}, more...))
		}
	}
	return out
}

// naming are values by their variables.
type naming map[int]int

// named are the values of some variables by these.
func named(scope, values []int) naming {
	out := naming{}
	for i, v := range scope {
		out[v] = values[i]
	}
	return out
}

// agrees is whether values are those that some variables have.
func (n naming) agrees(scope, values []int) bool {
	for i, v := range scope {
		if n[v] != values[i] {
			return false
		}
	}
	return true
}

// find is a table's cell at values that are told by variables, found by looking
// at all choices.
func find[T any](b api.Box[T], n naming) T {
	for i, values := range choices(b.Sizes) {
		if n.agrees(b.Scope, values) {
			return b.Cells[i]
		}
	}
	panic("no such cell")
}

// filled is a table with what a function makes of each choice as its cells.
func filled[T any](scope, sizes []int, cell func(naming) T) api.Box[T] {
	b := api.Box[T]{Scope: scope, Sizes: sizes}
	for _, values := range choices(sizes) {
		b.Cells = append(b.Cells, cell(named(scope, values)))
	}
	return b
}

// either are the variables of either of two tables with their sizes, found by
// asking for each number whether it is one.
func either[T any](a, b api.Box[T]) (scope, sizes []int) {
	for v := range 100 {
		if i := slices.Index(a.Scope, v); i >= 0 {
			scope, sizes = append(scope, v), append(sizes, a.Sizes[i])
		} else if i := slices.Index(b.Scope, v); i >= 0 {
			scope, sizes = append(scope, v), append(sizes, b.Sizes[i])
		}
	}
	return scope, sizes
}

// rest are the variables of a table other than one.
func rest[T any](a api.Box[T], but int) (scope, sizes []int) {
	for i, v := range a.Scope {
		if v != but {
			scope, sizes = append(scope, v), append(sizes, a.Sizes[i])
		}
	}
	return scope, sizes
}

// with is a naming with one value more.
func (n naming) with(v, value int) naming {
	out := naming{v: value}
	for w, x := range n {
		if w != v {
			out[w] = x
		}
	}
	return out
}

// sizes are how many values the variables of drawn tables have.
func sizes(v int) int { return []int{2, 3, 1, 2, 4, 1, 3}[v%7] }

// drawn is a table over some of seven variables, its cells made by a function.
func drawn[T any](source *rand.Rand, most int, cell func() T) api.Box[T] {
	var b api.Box[T]
	for v := range 7 {
		if len(b.Scope) < most && source.Intn(2) == 0 {
			b.Scope, b.Sizes = append(b.Scope, v), append(b.Sizes, sizes(v))
		}
	}
	for range choices(b.Sizes) {
		b.Cells = append(b.Cells, cell())
	}
	return b
}

// letters makes texts that are all different.
func letters() func() string {
	count := 0
	return func() string {
		count++
		return "x" + strconv.Itoa(count)
	}
}

// counted makes the numbers from 1 on.
func counted() func() int {
	count := 0
	return func() int {
		count++
		return count
	}
}

// wrong are tables that may not be, each with its error.
func wrong() map[string]api.Errno {
	return map[string]api.Errno{
		"0 / / 1": api.ErrShape, " / 1 / 1": api.ErrShape, "-1 / 2 / 1 2": api.ErrShape, "0 0 / 1 1 / 1": api.ErrShape, "1 0 / 2 2 / 1 2 3 4": api.ErrShape,
		"0 / 0 /": api.ErrShape, "0 / -1 /": api.ErrShape, "0 / 2 / 1": api.ErrShape, "0 / 2 / 1 2 3": api.ErrShape, " / /": api.ErrShape, " / / 1 2": api.ErrShape,
		"0 / 2147483648 /": api.ErrMany, "0 1 / 65536 65536 / 1": api.ErrMany, "0 1 / 4294967296 4294967296 /": api.ErrMany,
	}
}
