package show_test

import (
	"slices"
	"strings"
	"testing"

	"credence/api"
	"credence/nat"
	"credence/samples"
	"credence/show"
)

// 8.2: File.

func TestExamplesOfFiles(t *testing.T) {
	checkNoFile(t, api.File{}, api.ErrSyntax)
	checkFile(t, api.File{Name: "a"}, "network a {", "}")
	checkFile(t, api.File{Name: "a", Properties: []string{`x"y`}}, "network a {", `  property "x\"y";`, "}")
	checkNoFile(t, api.File{Name: "a", Properties: []string{"x\ny"}}, api.ErrText)
}

// all is a file that has everything that a file may have.
func all(t *testing.T) api.File {
	t.Helper()
	return api.File{
		Name:       "net",
		Properties: []string{"p", ""},
		Vars: []api.VarDecl{
			{Name: "x", Count: nat.Of(3), Values: []string{"u", "v", "w"}, Properties: []string{"q", `a\b "c"`}},
			{Name: "y", Count: nat.Of(0), Values: []string{"u"}},
		},
		Probs: []api.ProbDecl{
			{Name: "x", Entries: []api.Entry{{Kind: api.EntryTable, Numbers: row(t, "0.5, 1/4, 1 - 3/4")}}, Properties: []string{"r", "s"}},
			{Name: "y", Parents: []string{"x", "z"}, Entries: []api.Entry{
				{Kind: api.EntryRow, Given: []string{"u", "k"}, Numbers: row(t, "1, 0")},
				{Kind: api.EntryDefault, Numbers: row(t, "-(1 + 2)*3")},
				{Kind: api.EntryRow, Given: []string{"v"}, Numbers: row(t, "7")},
				{Kind: api.EntryTable, Numbers: row(t, "0, 0")},
			}, Properties: []string{"l"}},
			{Name: "z"},
			{Name: "z", Parents: []string{"y"}, Properties: []string{"e"}},
		},
	}
}

func TestLayout(t *testing.T) {
	checkFile(t, all(t),
		"network net {",
		`  property "p";`,
		`  property "";`,
		"}",
		"variable x {",
		"  type discrete [3] { u, v, w };",
		`  property "q";`,
		`  property "a\\b \"c\"";`,
		"}",
		"variable y {",
		"  type discrete [0] { u };",
		"}",
		"probability (x) {",
		"  table 0.5, 1/4, 1 - 3/4;",
		`  property "r";`,
		`  property "s";`,
		"}",
		"probability (y | x, z) {",
		"  (u, k) 1, 0;",
		"  default -(1 + 2)*3;",
		"  (v) 7;",
		"  table 0, 0;",
		`  property "l";`,
		"}",
		"probability (z) {",
		"}",
		"probability (z | y) {",
		`  property "e";`,
		"}")
}

// TestCounts: a count is written as digits, whatever the values are.
func TestCounts(t *testing.T) {
	huge, e := nat.Parse(strings.Repeat("9", 500))
	if e != api.OK {
		t.Fatal(e)
	}
	for _, c := range []struct {
		count api.Nat
		want  string
	}{
		{nil, "0"}, {api.Nat{}, "0"}, {api.Nat{0, 0}, "0"}, {api.Nat{7}, "7"}, {api.Nat{7, 0, 0}, "7"}, {api.Nat{0, 1}, "4294967296"}, {huge, strings.Repeat("9", 500)},
	} {
		checkFile(t, api.File{Name: "n", Vars: []api.VarDecl{{Name: "x", Count: c.count, Values: []string{"a", "b"}}}},
			"network n {", "}", "variable x {", "  type discrete ["+c.want+"] { a, b };", "}")
	}
}

// TestGivenCountsForNothing: in entries that are no rows.
func TestGivenCountsForNothing(t *testing.T) {
	for _, given := range [][]string{nil, {}, {"a"}, {""}, {"1", "a\nb"}} {
		checkFile(t, api.File{Name: "n", Probs: []api.ProbDecl{{Name: "x", Entries: []api.Entry{
			{Kind: api.EntryTable, Given: given, Numbers: row(t, "1")},
			{Kind: api.EntryDefault, Given: given, Numbers: row(t, "2")},
		}}}}, "network n {", "}", "probability (x) {", "  table 1;", "  default 2;", "}")
	}
}

// noNames are texts that are no names, and names are some that are.
func noNames() []string {
	return []string{"", "1", "1a", "a b", " a", "a\n", "a.b", "é", "a-b", "\x00", "\"a\"", strings.Repeat("x", 65)}
}

func names() []string {
	return []string{"a", "_", "Z9", "network", "property", "variable", "type", "discrete", "probability", "table", "default", strings.Repeat("x", 64)}
}

// TestNames: any name may stand where one may, and nothing else.
func TestNames(t *testing.T) {
	places := []func(f *api.File) *string{
		func(f *api.File) *string { return &f.Name },
		func(f *api.File) *string { return &f.Vars[0].Name },
		func(f *api.File) *string { return &f.Vars[1].Name },
		func(f *api.File) *string { return &f.Vars[0].Values[0] },
		func(f *api.File) *string { return &f.Vars[0].Values[2] },
		func(f *api.File) *string { return &f.Vars[1].Values[0] },
		func(f *api.File) *string { return &f.Probs[0].Name },
		func(f *api.File) *string { return &f.Probs[1].Name },
		func(f *api.File) *string { return &f.Probs[1].Parents[0] },
		func(f *api.File) *string { return &f.Probs[1].Parents[1] },
		func(f *api.File) *string { return &f.Probs[1].Entries[0].Given[0] },
		func(f *api.File) *string { return &f.Probs[1].Entries[0].Given[1] },
		func(f *api.File) *string { return &f.Probs[1].Entries[2].Given[0] },
		func(f *api.File) *string { return &f.Probs[3].Parents[0] },
	}
	const mark = "here"
	for _, place := range places {
		f := all(t)
		*place(&f) = mark
		lines := textOf(t, f)
		if strings.Count(lines, mark) != 1 {
			t.Fatalf("%s stands %d times in %s", mark, strings.Count(lines, mark), lines)
		}
		for _, name := range names() {
			*place(&f) = name
			checkFile(t, f, strings.TrimSuffix(strings.Replace(lines, mark, name, 1), "\n"))
		}
		for _, name := range noNames() {
			*place(&f) = name
			checkNoFile(t, f, api.ErrSyntax)
		}
	}
}

// spoil is a way to make something wrong, and what is then told.
type spoil struct {
	what string
	code api.Errno
	do   func(f *api.File)
}

// spoils are ways to make a file wrong, in the order of the text; those of one
// place stand together.
func spoils() [][]spoil {
	third := []api.Term{samples.Number(ratio(1, 3))}
	deep := append([]api.Term{samples.Whole(1)}, slices.Repeat([]api.Term{samples.Sign(api.TermNeg)}, 65)...)
	sums := func(what string, numbers func(f *api.File) *[][]api.Term, at int) [][]spoil {
		return [][]spoil{{
			{what + " no expression", api.ErrSyntax, func(f *api.File) { (*numbers(f))[at] = nil }},
			{what + " no number", api.ErrNumber, func(f *api.File) { (*numbers(f))[at] = third }},
			{what + " too deep", api.ErrDeep, func(f *api.File) { (*numbers(f))[at] = deep }},
		}}
	}
	text := func(what string, do func(f *api.File)) [][]spoil { return [][]spoil{{{what, api.ErrText, do}}} }
	name := func(what string, do func(f *api.File)) [][]spoil { return [][]spoil{{{what, api.ErrSyntax, do}}} }
	entry := func(i int) func(f *api.File) *api.Entry {
		return func(f *api.File) *api.Entry { return &f.Probs[1].Entries[i] }
	}
	numbers := func(i int) func(f *api.File) *[][]api.Term {
		return func(f *api.File) *[][]api.Term { return &entry(i)(f).Numbers }
	}
	return slices.Concat(
		name("the network's name", func(f *api.File) { f.Name = "" }),
		text("its property", func(f *api.File) { f.Properties[0] = "\n" }),
		text("its other property", func(f *api.File) { f.Properties[1] = "a\n" }),
		name("a variable's name", func(f *api.File) { f.Vars[0].Name = "1" }),
		[][]spoil{{
			{"no values", api.ErrSyntax, func(f *api.File) { f.Vars[0].Values = nil }},
			{"a value's name", api.ErrSyntax, func(f *api.File) { f.Vars[0].Values[2] = "" }},
		}},
		text("a variable's property", func(f *api.File) { f.Vars[0].Properties[1] = "\nb" }),
		[][]spoil{{{"no values of the second one", api.ErrSyntax, func(f *api.File) { f.Vars[1].Values = []string{} }}}},
		text("a property of the second one", func(f *api.File) { f.Vars[1].Properties = []string{"a", "b\nb"} }),
		name("a probability's name", func(f *api.File) { f.Probs[0].Name = "a b" }),
		sums("table", func(f *api.File) *[][]api.Term { return &f.Probs[0].Entries[0].Numbers }, 1),
		text("a probability's property", func(f *api.File) { f.Probs[0].Properties[0] = "\n\n" }),
		name("the second one's name", func(f *api.File) { f.Probs[1].Name = "é" }),
		name("a parent's name", func(f *api.File) { f.Probs[1].Parents[1] = "2" }),
		[][]spoil{{
			{"no given", api.ErrSyntax, func(f *api.File) { entry(0)(f).Given = nil }},
			{"a given name", api.ErrSyntax, func(f *api.File) { entry(0)(f).Given[1] = "-" }},
		}},
		sums("row", numbers(0), 0),
		sums("row, second", numbers(0), 1),
		[][]spoil{{
			{"default without numbers", api.ErrSyntax, func(f *api.File) { entry(1)(f).Numbers = [][]api.Term{} }},
			{"a kind 0", api.ErrSyntax, func(f *api.File) { entry(1)(f).Kind = 0 }},
		}},
		sums("second row", numbers(2), 0),
		[][]spoil{{
			{"table without numbers", api.ErrSyntax, func(f *api.File) { entry(3)(f).Numbers = nil }},
			{"a kind 4", api.ErrSyntax, func(f *api.File) { entry(3)(f).Kind = 4 }},
			{"a kind -1", api.ErrSyntax, func(f *api.File) { entry(3)(f).Kind = -1 }},
		}},
		text("the second one's property", func(f *api.File) { f.Probs[1].Properties[0] = "x\n" }),
		name("the last one's name", func(f *api.File) { f.Probs[3].Name = "" }),
		text("the last one's property", func(f *api.File) { f.Probs[3].Properties[0] = "x\ny" }),
	)
}

// TestFirstWrong: of two things that are wrong the first one in the text is
// told, and each of them alone.
func TestFirstWrong(t *testing.T) {
	places := spoils()
	for i, first := range places {
		for _, s := range first {
			f := all(t)
			s.do(&f)
			checkNoFile(t, f, s.code)
			for _, later := range slices.Concat(places[i+1:]...) {
				f := all(t)
				later.do(&f)
				s.do(&f)
				if got, e := show.File(f); e != s.code || got != "" {
					t.Fatalf("%s, and %s: %v, want %v", s.what, later.what, e, s.code)
				}
			}
		}
	}
}

// TestKindAheadOfNumbers: an entry of another kind, or without given names, is
// told ahead of its numbers.
func TestKindAheadOfNumbers(t *testing.T) {
	third := [][]api.Term{{samples.Number(ratio(1, 3))}}
	for _, e := range []api.Entry{{Kind: 0, Numbers: third}, {Kind: 4, Numbers: third}, {Kind: 9, Given: []string{"a"}, Numbers: third}, {Kind: api.EntryRow, Numbers: third}, {Kind: api.EntryRow, Given: []string{"a", "1"}, Numbers: third}} {
		checkNoFile(t, api.File{Name: "n", Probs: []api.ProbDecl{{Name: "x", Entries: []api.Entry{e}}}}, api.ErrSyntax)
	}
	for _, e := range []api.Entry{{Kind: api.EntryTable, Numbers: third}, {Kind: api.EntryDefault, Numbers: third}, {Kind: api.EntryRow, Given: []string{"a", "b"}, Numbers: third}} {
		checkNoFile(t, api.File{Name: "n", Probs: []api.ProbDecl{{Name: "x", Entries: []api.Entry{e}}}}, api.ErrNumber)
	}
}

// TestProperties: all texts but those with a byte 0A.
func TestProperties(t *testing.T) {
	for _, text := range []string{"", "a", `"`, `\`, `\"`, "};", "// x", "/*", "\x00\xff\t\r", strings.Repeat("long ", 1000)} {
		quoted := `"` + strings.ReplaceAll(strings.ReplaceAll(text, `\`, `\\`), `"`, `\"`) + `"`
		checkFile(t, api.File{Name: "n", Properties: []string{text, text}}, "network n {", "  property "+quoted+";", "  property "+quoted+";", "}")
	}
	for _, text := range []string{"\n", "a\n", "\na", "\r\n", `\n` + "\n", strings.Repeat("long ", 1000) + "\n"} {
		checkNoFile(t, api.File{Name: "n", Properties: []string{text}}, api.ErrText)
	}
}

// TestNoSenseIsAskedFor: names may come twice or be unknown, counts be wrong.
func TestNoSenseIsAskedFor(t *testing.T) {
	v := api.VarDecl{Name: "n", Count: nat.Of(9), Values: []string{"n", "n"}}
	p := api.ProbDecl{Name: "q", Parents: []string{"q", "n", "n"}, Entries: []api.Entry{{Kind: api.EntryRow, Given: []string{"n"}, Numbers: row(t, "5, 1/0, -7")}}}
	checkFile(t, api.File{Name: "n", Vars: []api.VarDecl{v, v}, Probs: []api.ProbDecl{p, p}},
		"network n {", "}",
		"variable n {", "  type discrete [9] { n, n };", "}",
		"variable n {", "  type discrete [9] { n, n };", "}",
		"probability (q | q, n, n) {", "  (n) 5, 1/0, -7;", "}",
		"probability (q | q, n, n) {", "  (n) 5, 1/0, -7;", "}")
}
