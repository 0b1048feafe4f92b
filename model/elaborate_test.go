package model_test

import (
	"math/rand"
	"slices"
	"testing"

	"credence/api"
	"credence/model"
	"credence/nat"
	"credence/samples"
)

// 19.1, 19.3: the network of a file.

// TestExample: the document's.
func TestExample(t *testing.T) {
	checkNet(t, fileOf(t, samples.RainText), rain())
}

// TestNoVariables: nil or empty.
func TestNoVariables(t *testing.T) {
	checkNet(t, api.File{}, api.Net{})
	checkNet(t, api.File{Name: "n", Properties: []string{"p"}, Vars: []api.VarDecl{}, Probs: []api.ProbDecl{}}, api.Net{Name: "n"})
}

// TestTables: by table, by rows, by a default, by both; the last parent's value
// changes fastest, whatever the order of the rows.
func TestTables(t *testing.T) {
	const head = `network n { }
		variable a { type discrete [2] { p, q }; } variable b { type discrete [3] { r, s, t }; } variable c { type discrete [2] { u, v }; }
		probability (a) { default 1/4, 3/4; } probability (b) { () 1; }`
	for _, c := range []struct{ parents, entries, want string }{
		{"", "table 1/3, 2/3;", "1/3 2/3"},
		{"", "default 1/3, 2/3;", "1/3 2/3"},
		{"| a", "table 1, 0, 1/3, 2/3;", "1 0 1/3 2/3"},
		{"| a", "default 1/3, 2/3;", "1/3 2/3 1/3 2/3"},
		{"| a", "(q) 0, 1; (p) 1/3, 2/3;", "1/3 2/3 0 1"},
		{"| a", "(q) 0, 1; default 1/3, 2/3;", "1/3 2/3 0 1"},
		{"| a", "default 1/3, 2/3; (q) 0, 1;", "1/3 2/3 0 1"},
		{"| a", "default 1, 0; (q) 0, 1; (p) 1/3, 2/3;", "1/3 2/3 0 1"},
		{"| a, b", "default 1, 0; (p, t) 0, 1; (q, r) 1/3, 2/3;", "1 0 1 0 0 1 1/3 2/3 1 0 1 0"},
		{"| b, a", "default 1, 0; (t, p) 0, 1; (r, q) 1/3, 2/3;", "1 0 1/3 2/3 1 0 1 0 0 1 1 0"},
		{"| b, a", "(s, q) 1/4, 3/4; (t, p) 1/5, 4/5; (r, q) 1/2, 1/2; (t, q) 1/6, 5/6; (s, p) 1/3, 2/3; (r, p) 1, 0;", "1 0 1/2 1/2 1/3 2/3 1/4 3/4 1/5 4/5 1/6 5/6"},
		{"| a, b", "table 1, 0, 1/2, 1/2, 1/3, 2/3, 1/4, 3/4, 1/5, 4/5, 1/6, 5/6;", "1 0 1/2 1/2 1/3 2/3 1/4 3/4 1/5 4/5 1/6 5/6"},
	} {
		f := fileOf(t, head[:len(head)-len("() 1; }")]+"table 1/2, 1/3, 1/6; } probability (c "+c.parents+") { "+c.entries+" }")
		n, e := model.Elaborate(f)
		if e != api.OK || wording(n.Tables[2]) != c.want || wording(n.Tables[0]) != "1/4 3/4" || wording(n.Tables[1]) != "1/2 1/3 1/6" {
			t.Errorf("(c %s) { %s }: %v, %v, want %s", c.parents, c.entries, n.Tables, e, c.want)
		}
	}
}

// TestOrder: variables stand as they are declared, parents as their block has
// them, wherever the blocks are.
func TestOrder(t *testing.T) {
	n := load(t, `network of { }
		probability (z | m, a) { table 0, 1, 1/2, 1/2; }
		variable m { type discrete [1] { one }; }
		probability (m) { table 1; }
		variable a { type discrete [2] { one, two }; }
		probability (a | m) { (one) 1/4, 3/4; }
		variable z { type discrete [2] { two, one }; }`)
	want := api.Net{
		Name:    "of",
		Names:   []string{"m", "a", "z"},
		Values:  [][]string{{"one"}, {"one", "two"}, {"two", "one"}},
		Parents: hung("| 0 | 0 1"),
		Tables:  [][]api.Rat{fractions("1"), fractions("1/4 3/4"), fractions("0 1 1/2 1/2")},
	}
	if !identical(n, want) {
		t.Errorf("%v, want %v", n, want)
	}
}

// TestAnyNames: whether names are names is not asked, and bytes are held against
// each other, nothing else.
func TestAnyNames(t *testing.T) {
	for _, names := range [][]string{{"", " "}, {"a b", "a  b"}, {"a", "A"}, {"\x00", "\x00\x00"}, {"1", "01"}, {"\xff", "\xfe"}, {"é", "e\u0301"}, {"1 ", "1"}, {",", " ,"}} {
		f := api.File{Name: names[0], Vars: []api.VarDecl{
			{Name: names[0], Count: nat.Of(2), Values: names},
			{Name: names[1], Count: nat.Of(2), Values: []string{names[1], names[0]}},
			{Name: "z", Count: nat.Of(1), Values: []string{names[1]}},
		}}
		half := [][]api.Term{terms("1/3"), terms("2/3")}
		other := [][]api.Term{terms("1/4"), terms("3/4")}
		f.Probs = []api.ProbDecl{
			{Name: names[0], Parents: []string{names[1]}, Entries: []api.Entry{{Kind: api.EntryRow, Given: names[:1], Numbers: half}, {Kind: api.EntryRow, Given: names[1:], Numbers: other}}},
			{Name: names[1], Entries: []api.Entry{{Kind: api.EntryRow, Numbers: other}}},
			{Name: "z", Parents: names, Entries: []api.Entry{{Kind: api.EntryDefault, Given: []string{"?"}, Numbers: [][]api.Term{terms("1")}}}},
		}
		checkNet(t, f, api.Net{
			Name: names[0], Names: []string{names[0], names[1], "z"}, Values: [][]string{names, {names[1], names[0]}, {names[1]}}, Parents: hung("1 | | 0 1"),
			Tables: [][]api.Rat{fractions("1/4 3/4 1/3 2/3"), fractions("1/4 3/4"), fractions("1 1 1 1")},
		})
	}
}

// TestNumbersAreWorkedOut: they are told in lowest terms, whatever stands there.
func TestNumbersAreWorkedOut(t *testing.T) {
	zeroed := api.Rat{Num: api.Int{Mag: api.Nat{1, 0}}}
	f := api.File{Vars: []api.VarDecl{{Name: "x", Count: api.Nat{5, 0, 0}, Values: []string{"a", "b", "c", "d", "e"}}}}
	f.Probs = []api.ProbDecl{{Name: "x", Entries: []api.Entry{{Kind: api.EntryTable, Numbers: [][]api.Term{
		{samples.Number(ratio(2, 8))}, terms("1 1/2 - 1 *"), terms("0 n"), {samples.Number(api.Rat{})}, append([]api.Term{samples.Number(zeroed)}, terms("4 /")...),
	}}}}}
	checkNet(t, f, api.Net{Names: []string{"x"}, Values: [][]string{{"a", "b", "c", "d", "e"}}, Parents: [][]int{nil}, Tables: [][]api.Rat{fractions("1/4 1/2 0 0 1/4")}})
}

// TestDrawnFiles: all ways in which a network may be told.
func TestDrawnFiles(t *testing.T) {
	w := writer{rand.New(rand.NewSource(191))}
	for i := range 2000 {
		n := w.net(i % 6)
		f := w.file(n)
		checkNet(t, f, n)
		if other := netIn(f); !identical(other, n) {
			t.Fatalf("the judge says of %v: %v, want %v", f, other, n)
		}
	}
}

// TestLongLists: a table of MaxCells numbers in each way, MaxVars variables.
func TestLongLists(t *testing.T) {
	w := writer{rand.New(rand.NewSource(192))}
	wide := netOf([][]int{nil}, []int{api.MaxCells}, even)
	parents := samples.FullParents(16)
	for v := range 15 {
		parents[v] = nil
	}
	deep := netOf(parents, slices.Repeat([]int{2}, 16), samples.DrawnRow(w))
	row := netOf(samples.RowOfParents(api.MaxVars), slices.Repeat([]int{3}, api.MaxVars), samples.DrawnRow(w))
	for _, n := range []api.Net{wide, deep, deep, deep, row} {
		f := w.file(n)
		if got, e := model.Elaborate(f); e != api.OK || !identical(got, n) {
			t.Errorf("%d variables: %v", len(n.Names), e)
		}
	}
}
