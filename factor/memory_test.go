package factor_test

import (
	"slices"
	"testing"

	"credence/api"
	"credence/factor"
	"credence/ring"
	"credence/samples"
)

// R3, R5: what is handed in is not changed, what is answered is new memory.

// marks are numbers that no table of these tests has.
var marks = samples.Marks[int]{Spare: -12345, Ink: -54321}

// parts are the lists of which tables are made.
func parts(tables ...api.Box[int]) [][]int {
	var out [][]int
	for _, b := range tables {
		out = append(out, b.Scope, b.Sizes, b.Cells)
	}
	return out
}

// calls are all that is told of two tables and a list of values.
func calls() map[string]func(a, b api.Box[int], values []int) []api.Box[int] {
	one := func(b api.Box[int], _ api.Errno) []api.Box[int] { return []api.Box[int]{b} }
	return map[string]func(a, b api.Box[int], values []int) []api.Box[int]{
		"Check": func(a, b api.Box[int], values []int) []api.Box[int] { factor.Check(a); return nil },
		"One": func(a, b api.Box[int], values []int) []api.Box[int] {
			return []api.Box[int]{factor.One(7), factor.One(7)}
		},
		"Times":          func(a, b api.Box[int], values []int) []api.Box[int] { return one(factor.Times(numbers, a, b)) },
		"Times, turned":  func(a, b api.Box[int], values []int) []api.Box[int] { return one(factor.Times(numbers, b, a)) },
		"Times, itself":  func(a, b api.Box[int], values []int) []api.Box[int] { return one(factor.Times(numbers, a, a)) },
		"Times, no ring": func(a, b api.Box[int], values []int) []api.Box[int] { return one(factor.Times(nil, a, b)) },
		"Out": func(a, b api.Box[int], values []int) []api.Box[int] {
			return slices.Concat(one(factor.Out(numbers, a, 0)), one(factor.Out(numbers, a, 1)), one(factor.Out(numbers, a, 2)), one(factor.Out(numbers, a, 2)))
		},
		"Given": func(a, b api.Box[int], values []int) []api.Box[int] {
			return slices.Concat(one(factor.Given(a, fix(0, 0))), one(factor.Given(a, fix(1, 0))), one(factor.Given(a, fix(2, 0))), one(factor.Given(a, fix(2, 0))))
		},
		"Cell": func(a, b api.Box[int], values []int) []api.Box[int] {
			x, _ := factor.Cell(a, values)
			return []api.Box[int]{{Cells: []int{x}}}
		},
		"Map": func(a, b api.Box[int], values []int) []api.Box[int] {
			itself := func(x int) int { return x }
			return slices.Concat(one(factor.Map(a, itself)), one(factor.Map(a, itself)))
		},
		"Same": func(a, b api.Box[int], values []int) []api.Box[int] { factor.Same(numbers, a, b); return nil },
		"what is made of it": func(a, b api.Box[int], values []int) []api.Box[int] {
			c, _ := factor.Times(numbers, a, b)
			return slices.Concat([]api.Box[int]{c}, one(factor.Out(numbers, c, 1)), one(factor.Given(c, fix(1, 0))), one(factor.Times(numbers, c, factor.One(1))))
		},
	}
}

// TestMemory: of tables that may be and of some that may not.
func TestMemory(t *testing.T) {
	texts := []string{" / / 5", "0 / 1 / 5", "0 / 2 / 1 2", "1 / 2 / 3 4", "2 / 3 / 5 6 7", "0 1 / 2 2 / 1 2 3 4", "1 2 / 2 3 / 1 2 3 4 5 6", "0 1 2 / 1 2 3 / 1 2 3 4 5 6", "0 / 2 / 1", "1 0 / 1 1 / 1", " / /"}
	for what, call := range calls() {
		for _, one := range texts {
			for _, other := range texts {
				laid := func(in [][]int) [][]int {
					return parts(call(api.Box[int]{Scope: in[0], Sizes: in[1], Cells: in[2]}, api.Box[int]{Scope: in[3], Sizes: in[4], Cells: in[5]}, in[6])...)
				}
				lists := append(parts(table(one), table(other)), []int{0, 0})
				if wrong := samples.Alone(laid, lists, marks); wrong != "" {
					t.Fatalf("%s of %s and %s: %s", what, one, other, wrong)
				}
			}
		}
	}
}

// TestMemoryOfOneListTwice: scope, sizes and cells may be the same list.
func TestMemoryOfOneListTwice(t *testing.T) {
	for what, call := range calls() {
		for _, numbers := range [][]int{nil, {1}, {2}, {1, 2}} {
			laid := func(in [][]int) [][]int {
				a := api.Box[int]{Scope: in[0], Sizes: in[0], Cells: in[0]}
				return parts(call(a, a, in[0])...)
			}
			if wrong := samples.Alone(laid, [][]int{numbers}, marks); wrong != "" {
				t.Fatalf("%s of %v, again and again: %s", what, numbers, wrong)
			}
		}
	}
	b := api.Box[int]{Scope: []int{1, 2}, Sizes: []int{1, 2}, Cells: []int{1, 2}}
	b.Scope = b.Cells
	b.Sizes = b.Cells
	check(t, "one list", of(factor.Times(numbers, b, b)), table("1 2 / 1 2 / 1 4"))
}

// TestHandedOn: cells are handed on as they are.
func TestHandedOn(t *testing.T) {
	cells := [][]int{{1}, {2}, {3}, {4}}
	a := api.Box[[]int]{Scope: []int{0, 1}, Sizes: []int{2, 2}, Cells: cells}
	less, _ := factor.Given(a, fix(0, 1))
	x, _ := factor.Cell(a, []int{1, 1})
	same, _ := factor.Map(a, func(l []int) []int { return l })
	for what, c := range map[string]struct{ got, want []int }{
		"Given": {less.Cells[0], cells[2]}, "Given, its last": {less.Cells[1], cells[3]}, "Cell": {x, cells[3]}, "One": {factor.One(cells[0]).Cells[0], cells[0]}, "Map": {same.Cells[2], cells[2]},
	} {
		if len(c.got) != 1 || &c.got[0] != &c.want[0] {
			t.Errorf("%s: %v is not the list itself", what, c.got)
		}
	}
}

// TestMemoryOfRats: fractions that are multiplied or summed up are new, also
// where there is one alone.
func TestMemoryOfRats(t *testing.T) {
	limbs := samples.Marks[uint32]{Spare: 0xdeadbeef, Ink: 0x55aa55aa}
	for _, r := range []ring.Ring[api.Rat]{ring.Rats{}, ring.Most{}} {
		for what, call := range map[string]func(a api.Box[api.Rat]) (api.Box[api.Rat], api.Errno){
			"Times":          func(a api.Box[api.Rat]) (api.Box[api.Rat], api.Errno) { return factor.Times(r, a, a) },
			"Times with One": func(a api.Box[api.Rat]) (api.Box[api.Rat], api.Errno) { return factor.Times(r, a, factor.One(r.One())) },
			"Out":            func(a api.Box[api.Rat]) (api.Box[api.Rat], api.Errno) { return factor.Out(r, a, 1) },
			"Out of one":     func(a api.Box[api.Rat]) (api.Box[api.Rat], api.Errno) { return factor.Out(r, a, 0) },
		} {
			laid := func(in [][]uint32) [][]uint32 {
				cells := []api.Rat{{Num: api.Int{Mag: in[0]}, Den: in[1]}, {Num: api.Int{Mag: in[2]}, Den: in[3]}}
				b, code := call(api.Box[api.Rat]{Scope: []int{0, 1}, Sizes: []int{1, 2}, Cells: cells})
				if code != api.OK {
					t.Fatalf("%s: %v", what, code)
				}
				return samples.Limbs(b.Cells...)
			}
			if wrong := samples.Alone(laid, samples.Limbs(samples.Ratio(2, 3), samples.Ratio(6, 4)), limbs); wrong != "" {
				t.Fatalf("%T: %s: %s", r, what, wrong)
			}
		}
	}
}
