package model_test

import (
	"math/rand"
	"slices"
	"strconv"
	"strings"
	"testing"

	"credence/api"
	"credence/model"
	"credence/nat"
	"credence/samples"
)

// 19.2: what is wrong.

// TestExamplesOfWrong: the chapter's rows.
func TestExamplesOfWrong(t *testing.T) {
	const block = "probability (rain) { table 0.8, 1/5; }"
	for _, c := range []struct {
		old, new string
		want     api.Errno
	}{
		{"dry, wet", "wet, wet", api.ErrTwice},
		{"(rain) { table", "(rain | grass) { table", api.ErrCycle},
		{"(rain) { table", "(rain | grass) { default", api.ErrCycle},
		{"[2] { no", "[3] { no", api.ErrMissing},
		{"(no)", "(nn)", api.ErrUnknown},
		{"default (1 - 0.9), 0.9;", "", api.ErrMissing},
		{"table 0.8, 1/5;", "table 0.8;", api.ErrMissing},
		{"0.8, 1/5", "0.8, 1/5, 0", api.ErrExtra},
		{"0.9;\n", "0.9; default 1, 0;\n", api.ErrExtra},
		{"9/10, 1/10", "9/10, -1/10", api.ErrEntry},
		{"9/10, 1/10", "1/0, 1", api.ErrEntry},
		{"9/10, 1/10", "9/10, 2/10", api.ErrRow},
		{block, "", api.ErrMissing},
		{block, block + block, api.ErrTwice},
	} {
		checkWrong(t, fileOf(t, instead(c.old, c.new)), c.want)
		checkFault(t, instead(c.old, c.new), api.Fault{Code: c.want})
	}
}

// plainText is a file of three variables that is spoilt here in all ways.
const plainText = `network n { }
variable a { type discrete [2] { p, q }; }
variable b { type discrete [2] { r, s }; }
variable c { type discrete [2] { u, v }; }
probability (a) { table 1/2, 1/2; }
probability (b | a) { (p) 1, 0; default 1/3, 2/3; }
probability (c | a, b) { (p, r) 1, 0; (p, s) 0, 1; (q, r) 1/2, 1/2; (q, s) 1/4, 3/4; }`

// spoil is a way to make something wrong, and what is then told.
type spoil struct {
	what string
	code api.Errno
	do   func(f *api.File)
}

// one are spoils that stand alone at their place.
func one(what string, code api.Errno, do func(f *api.File)) [][]spoil {
	return [][]spoil{{{what, code, do}}}
}

// nameSpoils are of the first class, in its order; those of one place stand
// together.
func nameSpoils() [][]spoil {
	return slices.Concat(
		one("a's values", api.ErrTwice, func(f *api.File) { f.Vars[0].Values[1] = "p" }),
		[][]spoil{{
			{"b's name", api.ErrTwice, func(f *api.File) { f.Vars[1].Name = "a" }},
			{"b's values", api.ErrTwice, func(f *api.File) { f.Vars[1].Values = []string{"r", "s", "r"} }},
			{"c's name", api.ErrTwice, func(f *api.File) { f.Vars[2].Name = "a" }},
		}},
		[][]spoil{{{"no a", api.ErrUnknown, func(f *api.File) { f.Probs[0].Name = "z" }}}, {{"no parent of a", api.ErrUnknown, func(f *api.File) { f.Probs[0].Parents = []string{"z"} }}, {"a parent of a twice", api.ErrTwice, func(f *api.File) { f.Probs[0].Parents = []string{"b", "b"} }}}},
		[][]spoil{{{"no b", api.ErrUnknown, func(f *api.File) { f.Probs[1].Name = "" }}, {"a again", api.ErrTwice, func(f *api.File) { f.Probs[1].Name = "a" }}}},
		one("no parent of b", api.ErrUnknown, func(f *api.File) { f.Probs[1].Parents[0] = "A" }),
		one("no p", api.ErrUnknown, func(f *api.File) { f.Probs[1].Entries[0].Given[0] = "r" }),
		[][]spoil{{{"b again", api.ErrTwice, func(f *api.File) { f.Probs[2].Name = "b" }}, {"no c", api.ErrUnknown, func(f *api.File) { f.Probs[2].Name = "p" }}}},
		one("no first parent of c", api.ErrUnknown, func(f *api.File) { f.Probs[2].Parents[0] = "u" }),
		[][]spoil{{{"no second parent of c", api.ErrUnknown, func(f *api.File) { f.Probs[2].Parents[1] = "" }}, {"the same", api.ErrTwice, func(f *api.File) { f.Probs[2].Parents[1] = "a" }}}},
		one("no second value", api.ErrUnknown, func(f *api.File) { f.Probs[2].Entries[0].Given[1] = "p" }),
		one("no first value", api.ErrUnknown, func(f *api.File) { f.Probs[2].Entries[2].Given[0] = "s" }),
		[][]spoil{{
			{"a on c", api.ErrCycle, func(f *api.File) { f.Probs[0].Parents = append(f.Probs[0].Parents, "c") }},
			{"a on b", api.ErrCycle, func(f *api.File) { f.Probs[0].Parents = append(f.Probs[0].Parents, "b") }},
			{"a on itself", api.ErrCycle, func(f *api.File) { f.Probs[0].Parents = append(f.Probs[0].Parents, "a") }},
			{"c on itself", api.ErrCycle, func(f *api.File) { f.Probs[2].Parents = append(f.Probs[2].Parents, "c") }},
		}},
	)
}

// count makes a variable's count another one.
func count(v int, count api.Nat) func(f *api.File) {
	return func(f *api.File) { f.Vars[v].Count = count }
}

// entry does something to an entry of a block, if it is still there.
func entry(block, at int, do func(e *api.Entry)) func(f *api.File) {
	return func(f *api.File) {
		if at < len(f.Probs[block].Entries) {
			do(&f.Probs[block].Entries[at])
		}
	}
}

// more puts an entry behind those of a block.
func more(block int, kind int8, given, numbers string) func(f *api.File) {
	return func(f *api.File) {
		f.Probs[block].Entries = append(f.Probs[block].Entries, api.Entry{Kind: kind, Given: strings.Fields(given), Numbers: numbersAs(numbers)})
	}
}

// numbersAs are a row of small numbers.
func numbersAs(text string) [][]api.Term {
	var out [][]api.Term
	for word := range strings.FieldsSeq(text) {
		out = append(out, terms(word))
	}
	return out
}

// fewer and tooMany take a number away and put one in.
func fewer(e *api.Entry)   { e.Numbers = e.Numbers[:len(e.Numbers)-1] }
func tooMany(e *api.Entry) { e.Numbers = append(e.Numbers, terms("0")) }

// kind makes an entry of another kind.
func kind(kind int8) func(e *api.Entry) { return func(e *api.Entry) { e.Kind = kind } }

// given are other names of a row.
func given(names ...string) func(e *api.Entry) { return func(e *api.Entry) { e.Given = names } }

// another is one name more of a row.
func another(name string) func(e *api.Entry) {
	return func(e *api.Entry) { e.Given = append(e.Given, name) }
}

// amountSpoils are of the third class likewise.
func amountSpoils() [][]spoil {
	wide := make(api.Nat, 40)
	wide[39] = 1
	return [][]spoil{
		{{"a's count above", api.ErrMissing, count(0, nat.Of(3))}, {"a's count below", api.ErrExtra, count(0, nat.Of(1))}, {"a's count 0", api.ErrExtra, count(0, nil)}},
		{{"b's count huge", api.ErrMissing, count(1, wide)}, {"b's count huge by its second limb", api.ErrMissing, count(1, api.Nat{2, 1})}, {"b's count below", api.ErrExtra, count(1, api.Nat{1, 0, 0})}},
		{{"c's values", api.ErrMissing, func(f *api.File) { f.Vars[2].Values, f.Vars[2].Count = nil, nil }}, {"one value of c", api.ErrMissing, func(f *api.File) { f.Vars[2].Values = f.Vars[2].Values[:1] }}, {"more values of c", api.ErrExtra, func(f *api.File) { f.Vars[2].Values = append(f.Vars[2].Values, "w") }}},
		{{"no kind", api.ErrExtra, entry(0, 0, kind(0))}, {"no kind either", api.ErrExtra, entry(0, 0, kind(4))}, {"fewer numbers in a's table", api.ErrMissing, entry(0, 0, fewer)}, {"more numbers in a's table", api.ErrExtra, entry(0, 0, tooMany)}},
		{{"a second table", api.ErrExtra, more(0, api.EntryTable, "", "1 0")}, {"a default behind a table", api.ErrExtra, more(0, api.EntryDefault, "", "1 0")}, {"a row behind a table", api.ErrExtra, more(0, api.EntryRow, "", "1 0")}, {"a kind of none behind a table", api.ErrExtra, more(0, -1, "", "1 0")}},
		{{"a row with more names", api.ErrExtra, entry(1, 0, another("p"))}, {"a row with unknown names more", api.ErrExtra, entry(1, 0, another("?"))}, {"fewer numbers in a row", api.ErrMissing, entry(1, 0, fewer)}, {"more numbers in a row", api.ErrExtra, entry(1, 0, tooMany)}},
		{{"fewer numbers in a default", api.ErrMissing, entry(1, 1, fewer)}, {"more numbers in a default", api.ErrExtra, entry(1, 1, tooMany)}, {"no default", api.ErrMissing, func(f *api.File) { f.Probs[1].Entries = f.Probs[1].Entries[:1] }}, {"a table that is not the first", api.ErrExtra, entry(1, 1, kind(api.EntryTable))},
			{"a second default", api.ErrExtra, more(1, api.EntryDefault, "", "1 0")}, {"the row again", api.ErrExtra, more(1, api.EntryRow, "p", "1 0")}, {"a row behind with fewer numbers", api.ErrMissing, more(1, api.EntryRow, "q", "1")}},
		{{"no name", api.ErrMissing, entry(2, 1, given())}, {"one name", api.ErrMissing, entry(2, 1, given("p"))}, {"three names", api.ErrExtra, entry(2, 1, given("p", "s", "u"))}, {"the names of a row ahead", api.ErrExtra, entry(2, 1, given("p", "r"))}},
		{{"no last row", api.ErrMissing, func(f *api.File) { f.Probs[2].Entries = f.Probs[2].Entries[:3] }}, {"a row more", api.ErrExtra, more(2, api.EntryRow, "q s", "1 0")}, {"a table behind rows", api.ErrExtra, more(2, api.EntryTable, "", "1 0 1 0 1 0 1 0")}},
		{{"no block", api.ErrMissing, func(f *api.File) {
			f.Vars = append(f.Vars, api.VarDecl{Name: "d", Count: nat.Of(1), Values: []string{"p"}})
		}}},
	}
}

// number makes a number another one, if it is still there.
func number(block, at, place int, text string) func(f *api.File) {
	return entry(block, at, func(e *api.Entry) {
		if place < len(e.Numbers) {
			e.Numbers[place] = terms(text)
		}
	})
}

// inPlace makes the numbers of an entry others, as far as there are some.
func inPlace(text string) func(e *api.Entry) {
	return func(e *api.Entry) { copy(e.Numbers, numbersAs(text)) }
}

// valueSpoils are of the last three classes likewise.
func valueSpoils() [][]spoil {
	var out [][]spoil
	deep := "0" + strings.Repeat(" n", 65)
	for _, at := range [][3]int{{0, 0, 0}, {0, 0, 1}, {1, 0, 1}, {1, 1, 0}, {2, 0, 0}, {2, 3, 1}} {
		var here []spoil
		for text, code := range map[string]api.Errno{
			"": api.ErrSyntax, "1 1": api.ErrSyntax, "+": api.ErrSyntax, "1 k0": api.ErrSyntax, deep: api.ErrDeep, "1 0 /": api.ErrEntry, "0 0 /": api.ErrEntry, "-1": api.ErrEntry, "1 n": api.ErrEntry, "2": api.ErrEntry,
			"-1/1000000000000000000000000": api.ErrEntry, "1000000000000000000001/1000000000000000000000": api.ErrEntry,
		} {
			here = append(here, spoil{"the number " + text, code, number(at[0], at[1], at[2], text)})
		}
		out = append(out, here)
	}
	for _, at := range [][2]int{{0, 0}, {1, 0}, {1, 1}, {2, 1}, {2, 3}} {
		out = append(out, []spoil{
			{"a row above", api.ErrRow, entry(at[0], at[1], inPlace("1/2 500000000000000000001/1000000000000000000000"))},
			{"a row below", api.ErrRow, entry(at[0], at[1], inPlace("1/3 1/3"))},
			{"a row of 0", api.ErrRow, entry(at[0], at[1], inPlace("0 0"))},
			{"a row of 2", api.ErrRow, entry(at[0], at[1], inPlace("1 1"))},
		})
	}
	return append(out, []spoil{{"many variables", api.ErrMany, func(f *api.File) {
		for i := range api.MaxVars {
			name := strconv.Itoa(i)
			f.Vars = append(f.Vars, api.VarDecl{Name: name, Count: nat.Of(1), Values: []string{name}})
			f.Probs = append(f.Probs, api.ProbDecl{Name: name, Entries: []api.Entry{{Kind: api.EntryTable, Numbers: numbersAs("1")}}})
		}
	}}})
}

// TestFirstWrong: of two things that are wrong the first one is told, and each
// of them alone.
func TestFirstWrong(t *testing.T) {
	places := slices.Concat(nameSpoils(), amountSpoils(), valueSpoils())
	checkNet(t, fileOf(t, plainText), netIn(fileOf(t, plainText)))
	for i, first := range places {
		for _, s := range first {
			f := fileOf(t, plainText)
			s.do(&f)
			checkWrong(t, f, s.code)
			for _, later := range slices.Concat(places[i+1:]...) {
				f := fileOf(t, plainText)
				later.do(&f)
				s.do(&f)
				if got, e := model.Elaborate(f); e != s.code || !isZero(got) {
					t.Fatalf("%s, and %s: %v, want %v", s.what, later.what, e, s.code)
				}
			}
		}
	}
}

// TestOrderInEntries: what is told of the entries of one block.
func TestOrderInEntries(t *testing.T) {
	const head = `network n { } variable y { type discrete [2] { p, q }; } variable x { type discrete [2] { u, v }; } probability (y) { default 1, 0; } probability (x | y) { `
	for entries, want := range map[string]api.Errno{
		"":                                           api.ErrMissing,
		"(p) 1, 0;":                                  api.ErrMissing,
		"(p) 1, 0; (q) 1, 0;":                        api.OK,
		"(p) 1, 0; (q) 1, 0; default 1;":             api.ErrMissing,
		"(p) 1, 0; (q) 1, 0; default 1, 0;":          api.OK,
		"(p) 1, 0; (q) 1, 0; table 1, 0, 1, 0;":      api.ErrExtra,
		"(p) 1, 0; table 1;":                         api.ErrExtra,
		"default 1, 0; table 1;":                     api.ErrExtra,
		"default 1; table 1, 0, 1, 0;":               api.ErrMissing,
		"table 1, 0, 1, 0;":                          api.OK,
		"table 1, 0, 1;":                             api.ErrMissing,
		"table 1, 0;":                                api.ErrMissing,
		"table 1, 0, 1, 0, 1;":                       api.ErrExtra,
		"table 1, 0, 1; table 1, 0, 1, 0;":           api.ErrMissing,
		"table 1, 0, 1, 0; default 1;":               api.ErrExtra,
		"table 1, 0, 1, 0; (p, q) 1;":                api.ErrExtra,
		"table 1, 0, 1, 0; (p) 1;":                   api.ErrExtra,
		"default 1, 0; default 1;":                   api.ErrExtra,
		"default 1, 0; (p) 1, 0; default 1;":         api.ErrExtra,
		"default 1, 0, 0; (p) 1;":                    api.ErrExtra,
		"default 1; (p, q) 1, 0;":                    api.ErrMissing,
		"(p, q) 1;":                                  api.ErrExtra,
		"(p, q) 1, 0; (p) 1;":                        api.ErrExtra,
		"(p) 1, 0; (p) 1;":                           api.ErrExtra,
		"(p) 1; (p) 1, 0;":                           api.ErrMissing,
		"(p) 1, 0, 0; (q) 1;":                        api.ErrExtra,
		"default 1, 0; (p) 1, 0; (q) 1, 0; (p) 0,1;": api.ErrExtra,
		"default 2, 0; (p) 1, 0; (q) 1;":             api.ErrMissing,
		"default 1/2, 0; (p) 2, 0; (q) 1, 0;":        api.ErrEntry,
		"default 1/2, 0; (p) 1, 0; (q) 1, 0;":        api.ErrRow,
		"table 1/2, 0, 1/2, 1/3;":                    api.ErrRow,
		"table 1, 1, 0, 0;":                          api.ErrRow,
		"table 1/2, 1/2, 1/2, 1/3;":                  api.ErrRow,
		"table 1/2, 1/2, 1/2, 1/0;":                  api.ErrEntry,
		"(z) 1, 0; (p) 1, 0; table 1;":               api.ErrUnknown,
		"(p, z) 1, 0;":                               api.ErrExtra,
		"(u) 1, 0;":                                  api.ErrUnknown,
	} {
		f := fileOf(t, head+entries+"}")
		if got, e := model.Elaborate(f); e != want || isZero(got) != (want != api.OK) {
			t.Errorf("{ %s }: %v, want %v", entries, e, want)
		}
		if e := wrongWith(f); e != want {
			t.Errorf("{ %s }: the judge says %v, want %v", entries, e, want)
		}
	}
}

// TestNamesLinger: what was told of a name in one variable or block says nothing
// of another one.
func TestNamesLinger(t *testing.T) {
	load(t, `network a { }
		variable a { type discrete [2] { a, b }; } variable b { type discrete [2] { a, b }; } variable c { type discrete [1] { c }; }
		probability (c | a, b) { (a, b) 1; (b, a) 1; (a, a) 1; (b, b) 1; } probability (b | a) { (a) 1, 0; (b) 0, 1; } probability (a) { table 1, 0; }`)
	checkFault(t, `network a { }
		variable a { type discrete [2] { a, b }; } variable b { type discrete [2] { c, d }; } variable e { type discrete [1] { e }; }
		probability (e | a, b) { (c, a) 1; default 1; }`, api.Fault{Code: api.ErrUnknown})
}

// TestSpoiltFiles: files that are spoilt in up to four places are judged as by
// the chapter's words.
func TestSpoiltFiles(t *testing.T) {
	w := writer{rand.New(rand.NewSource(193))}
	times := map[api.Errno]int{}
	for i := range 30000 {
		f := w.file(w.net(1 + i%4))
		for range 1 + w.Intn(4) {
			w.spoil(&f)
		}
		want := wrongWith(f)
		times[want]++
		if want == api.OK {
			checkNet(t, f, netIn(f))
			continue
		}
		checkWrong(t, f, want)
	}
	for _, code := range []api.Errno{api.OK, api.ErrTwice, api.ErrUnknown, api.ErrCycle, api.ErrMissing, api.ErrExtra, api.ErrSyntax, api.ErrDeep, api.ErrEntry, api.ErrRow} {
		if times[code] < 40 {
			t.Errorf("%v comes %d times alone", code, times[code])
		}
	}
}

// hungOn is a file in which x, of so many values, hangs on variables of some
// sizes, with one entry for x.
func hungOn(sizes []int, own int, e api.Entry) api.File {
	n := netOf(make([][]int, len(sizes)), sizes, even)
	f := writer{rand.New(rand.NewSource(1))}.file(n)
	v := api.VarDecl{Name: "x", Count: nat.Of(uint64(own))}
	for i := range own {
		v.Values = append(v.Values, strconv.Itoa(i))
	}
	f.Vars = append(f.Vars, v)
	f.Probs = append([]api.ProbDecl{{Name: "x", Parents: n.Names, Entries: []api.Entry{e}}}, f.Probs...)
	return f
}

// ofOnes are so many numbers, by turns 1 and, width less one times, 0.
func ofOnes(count, width int) [][]api.Term {
	out := make([][]api.Term, count)
	for i := range out {
		out[i] = terms("0")
		if i%width == 0 {
			out[i] = terms("1")
		}
	}
	return out
}

// TestHugeTables: what a table must have may be more than any number that is
// held; it is judged all the same, and nothing is laid out.
func TestHugeTables(t *testing.T) {
	twos := func(count int) []int { return slices.Repeat([]int{2}, count) }
	for _, c := range []struct {
		sizes []int
		own   int
	}{
		{twos(31), 1}, {twos(30), 2}, {twos(31), 2}, {twos(32), 1}, {twos(63), 1}, {twos(62), 2}, {twos(63), 2}, {twos(64), 1}, {twos(64), 2}, {twos(200), 3}, {twos(1000), 2}, {slices.Repeat([]int{256}, 8), 1},
		// These make 2^64 and 418.
		{[]int{2, 7, 31, 673, 853, 1669, 5821}, 7621}, {[]int{7621, 5821, 1669, 853, 673, 31, 7}, 2},
	} {
		checkWrong(t, hungOn(c.sizes, c.own, api.Entry{Kind: api.EntryDefault, Numbers: ofOnes(c.own, c.own)}), api.ErrMany)
		checkWrong(t, hungOn(c.sizes, c.own, api.Entry{Kind: api.EntryDefault, Numbers: ofOnes(c.own+1, c.own)}), api.ErrExtra)
		for _, count := range []int{0, 1, 2, 418, 836} {
			checkWrong(t, hungOn(c.sizes, c.own, api.Entry{Kind: api.EntryTable, Numbers: ofOnes(count, c.own)}), api.ErrMissing)
		}
		row := api.Entry{Kind: api.EntryRow, Given: slices.Repeat([]string{"v1"}, len(c.sizes)), Numbers: ofOnes(c.own, c.own)}
		f := hungOn(c.sizes, c.own, row)
		checkWrong(t, f, api.ErrMissing)
		other := row
		other.Given = slices.Clone(row.Given)
		other.Given[len(c.sizes)/2] = "v0"
		f.Probs[0].Entries = append(f.Probs[0].Entries, other, api.Entry{Kind: api.EntryDefault, Numbers: row.Numbers})
		checkWrong(t, f, api.ErrMany)
		f.Probs[0].Entries = append(f.Probs[0].Entries, other)
		checkWrong(t, f, api.ErrExtra)
	}
}

// TestMostCells: as many as may be, and one more.
func TestMostCells(t *testing.T) {
	for _, c := range []struct {
		sizes []int
		own   int
		want  api.Errno
	}{
		{nil, 65536, api.OK}, {nil, 65537, api.ErrMany}, {[]int{65536}, 1, api.OK}, {[]int{256, 1, 128}, 2, api.OK}, {[]int{13, 71}, 71, api.OK}, {[]int{13, 71}, 72, api.ErrMany},
	} {
		rows := 1
		for _, size := range c.sizes {
			rows *= size
		}
		for _, f := range []api.File{
			hungOn(c.sizes, c.own, api.Entry{Kind: api.EntryDefault, Numbers: ofOnes(c.own, c.own)}),
			hungOn(c.sizes, c.own, api.Entry{Kind: api.EntryTable, Numbers: ofOnes(rows*c.own, c.own)}),
		} {
			n, e := model.Elaborate(f)
			if e != c.want || isZero(n) != (c.want != api.OK) || e == api.OK && len(n.Tables[len(c.sizes)]) != rows*c.own {
				t.Errorf("%v, %d: %v, want %v", c.sizes, c.own, e, c.want)
			}
		}
	}
	// One of the parents may be it, too.
	checkWrong(t, hungOn([]int{65537}, 1, api.Entry{Kind: api.EntryDefault, Numbers: ofOnes(1, 1)}), api.ErrMany)
}

// TestMostVariables: as many as may be, one more, and very many; whatever else
// is wrong comes ahead.
func TestMostVariables(t *testing.T) {
	for _, count := range []int{api.MaxVars, api.MaxVars + 1, 60000} {
		w := writer{rand.New(rand.NewSource(194))}
		f := w.file(netOf(samples.RowOfParents(count), slices.Repeat([]int{1}, count), even))
		want := api.OK
		if count > api.MaxVars {
			want = api.ErrMany
		}
		if n, e := model.Elaborate(f); e != want || e == api.OK && len(n.Names) != count {
			t.Errorf("%d variables: %v, want %v", count, e, want)
		}
		for _, s := range []spoil{
			{"a row", api.ErrRow, number(count-1, 0, 0, "1/2")}, {"a number", api.ErrEntry, number(count-1, 0, 0, "2")}, {"a count", api.ErrMissing, func(f *api.File) { f.Vars[count-1].Count = nat.Of(2) }},
			{"a way back", api.ErrCycle, func(f *api.File) {
				p := &f.Probs[blockOf(*f, "x"+strconv.Itoa(count-1))]
				p.Parents = []string{"x0"}
			}},
			{"a name", api.ErrTwice, func(f *api.File) { f.Vars[count-1].Name = "x0" }},
		} {
			s.do(&f)
			if _, e := model.Elaborate(f); e != s.code {
				t.Errorf("%d variables, %s: %v, want %v", count, s.what, e, s.code)
			}
		}
	}
}
