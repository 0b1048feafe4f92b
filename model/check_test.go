package model_test

import (
	"math"
	"math/rand"
	"slices"
	"strconv"
	"testing"

	"credence/api"
	"credence/dag"
	"credence/frac"
	"credence/model"
	"credence/samples"
)

// 19.5: Check.

// checkCheck holds Check against what it should say, and so the calls that ask
// it first.
func checkCheck(t *testing.T, what string, n api.Net, want api.Errno) {
	t.Helper()
	if got := model.Check(n); got != want {
		t.Fatalf("Check, %s: %v, want %v", what, got, want)
	}
	if want == api.OK {
		return
	}
	if x, e := model.Chance(n, make([]int, len(n.Names))); e != want || x.Num.Mag != nil || x.Den != nil {
		t.Fatalf("Chance, %s: %v, %v, want %v", what, x, e, want)
	}
	if b, e := model.Boxes(n); e != want || len(b) > 0 {
		t.Fatalf("Boxes, %s: %v, %v, want %v", what, b, e, want)
	}
}

// alone is a network of one variable.
func alone(values []string, parents []int, tables ...[]api.Rat) api.Net {
	return api.Net{Names: []string{"a"}, Values: [][]string{values}, Parents: [][]int{parents}, Tables: tables}
}

// TestExamplesOfCheck: the chapter's rows.
func TestExamplesOfCheck(t *testing.T) {
	two := []string{"x", "y"}
	checkCheck(t, "no values", alone(nil, nil, nil), api.ErrMissing)
	checkCheck(t, "too little", alone(two, nil, fractions("1/2 1/3")), api.ErrRow)
	checkCheck(t, "a parent 5", alone(two, []int{5}, fractions("1/2 1/2")), api.ErrRange)
	checkCheck(t, "no lists", alone(two, nil), api.ErrShape)
	checkCheck(t, "all well", alone(two, nil, fractions("1/2 1/2")), api.OK)
	checkCheck(t, "the example", rain(), api.OK)
	checkCheck(t, "nothing", api.Net{}, api.OK)
	checkCheck(t, "empty lists", api.Net{Name: "n", Names: []string{}, Values: [][]string{}, Parents: [][]int{}, Tables: [][]api.Rat{}}, api.OK)
}

// mayNot is why a network may not be, by the words of the chapter.
func mayNot(n api.Net) api.Errno {
	vars := len(n.Names)
	if len(n.Values) != vars || len(n.Parents) != vars || len(n.Tables) != vars {
		return api.ErrShape
	}
	if vars > 1024 {
		return api.ErrMany
	}
	for v, name := range n.Names {
		if slices.Contains(n.Names[:v], name) || twice(n.Values[v]) {
			return api.ErrTwice
		}
		if len(n.Values[v]) == 0 {
			return api.ErrMissing
		}
	}
	if e := dag.Check(n.Parents); e != api.OK {
		return e
	}
	for v, table := range n.Tables {
		must := len(n.Values[v])
		for _, parent := range n.Parents[v] {
			must *= len(n.Values[parent])
		}
		if must > 65536 {
			return api.ErrMany
		}
		if len(table) != must {
			return api.ErrShape
		}
	}
	for _, x := range slices.Concat(n.Tables...) {
		if frac.Sign(x) < 0 || frac.Cmp(x, ratio(1, 1)) > 0 {
			return api.ErrEntry
		}
	}
	for v, table := range n.Tables {
		for len(table) > 0 {
			if frac.Text(frac.Sum(table[:len(n.Values[v])]...)) != "1" {
				return api.ErrRow
			}
			table = table[len(n.Values[v]):]
		}
	}
	return api.OK
}

// plainNet is a network of three variables that is spoilt here in all ways.
func plainNet() api.Net {
	return api.Net{
		Names:   []string{"a", "b", "c"},
		Values:  [][]string{{"p", "q"}, {"r", "s", "t"}, {"u", "v"}},
		Parents: hung("| 0 | 1 0"),
		Tables:  [][]api.Rat{fractions("1/2 1/2"), fractions("1 0 0 1/3 1/3 1/3"), fractions("1 0 0 1 1/2 1/2 1/4 3/4 1/5 4/5 1/6 5/6")},
	}
}

// flaw is a way to spoil a network, and what is then told.
type flaw struct {
	what string
	code api.Errno
	do   func(n *api.Net)
}

// flaws are ways to spoil a network, in the order in which they are told; those
// of one place stand together.
func flaws() [][]flaw {
	names := func(v int) [][]flaw {
		return [][]flaw{
			{{"a name", api.ErrTwice, func(n *api.Net) { n.Names[v] = n.Names[(v+2)%3] }}, {"values", api.ErrTwice, func(n *api.Net) { n.Values[v] = []string{"z", "y", "z"} }}},
			{{"no values", api.ErrMissing, func(n *api.Net) { n.Values[v] = nil }}},
		}
	}
	// A variable's name is told where it comes again.
	ofA := names(0)
	ofA[0] = ofA[0][1:]
	entries := func(v, at int) []flaw {
		var out []flaw
		for _, x := range fractions("-1 2 -1/1000000000000000000000000 1000000000000000000001/1000000000000000000000") {
			out = append(out, flaw{"a number " + frac.Text(x), api.ErrEntry, func(n *api.Net) { n.Tables[v][at] = x }})
		}
		return append(out, flaw{"a number over 0", api.ErrEntry, func(n *api.Net) { n.Tables[v][at] = api.Rat{Num: api.Int{Mag: api.Nat{2}}} }})
	}
	row := func(v, at int, text string) []flaw {
		return []flaw{{"a row " + text, api.ErrRow, func(n *api.Net) { copy(n.Tables[v][at:], fractions(text)) }}}
	}
	lengths := func(v int) []flaw {
		return []flaw{
			{"a shorter table", api.ErrShape, func(n *api.Net) { n.Tables[v] = n.Tables[v][:len(n.Tables[v])-1] }},
			{"a longer table", api.ErrShape, func(n *api.Net) { n.Tables[v] = append(n.Tables[v], api.Rat{}) }},
			{"no table", api.ErrShape, func(n *api.Net) { n.Tables[v] = nil }},
		}
	}
	return slices.Concat(
		[][]flaw{{
			{"more names", api.ErrShape, func(n *api.Net) { n.Names = append(n.Names, "a") }}, {"more values", api.ErrShape, func(n *api.Net) { n.Values = append(n.Values, nil) }},
			{"more parents", api.ErrShape, func(n *api.Net) { n.Parents = append(n.Parents, nil) }}, {"more tables", api.ErrShape, func(n *api.Net) { n.Tables = append(n.Tables, nil) }},
			{"fewer tables", api.ErrShape, func(n *api.Net) { n.Tables = n.Tables[:1] }}, {"no parents", api.ErrShape, func(n *api.Net) { n.Parents = nil }}, {"no names", api.ErrShape, func(n *api.Net) { n.Names = nil }}, {"fewer values", api.ErrShape, func(n *api.Net) { n.Values = n.Values[:2] }},
		}},
		ofA, names(1), names(2),
		[][]flaw{{{"a parent below", api.ErrRange, func(n *api.Net) { n.Parents[1][0] = -1 }}, {"a parent above", api.ErrRange, func(n *api.Net) { n.Parents[2][1] = 3 }}, {"a parent far above", api.ErrRange, func(n *api.Net) { n.Parents[0] = []int{math.MaxInt} }}, {"a parent far below", api.ErrRange, func(n *api.Net) { n.Parents[0] = []int{math.MinInt} }}}},
		[][]flaw{{{"a parent twice", api.ErrTwice, func(n *api.Net) { n.Parents[2] = list("1 1") }}}},
		[][]flaw{{{"a way back", api.ErrCycle, func(n *api.Net) { n.Parents[0] = list("2") }}, {"on itself", api.ErrCycle, func(n *api.Net) { n.Parents[1] = list("0 1") }}}},
		[][]flaw{lengths(0), lengths(1), lengths(2)},
		[][]flaw{entries(0, 1), entries(1, 0), entries(2, 10)},
		[][]flaw{row(0, 0, "1/2 1/3"), row(0, 0, "1 1"), row(0, 0, "0 0")}, [][]flaw{row(1, 0, "1/2 1/2 1/2"), row(1, 3, "1/3 1/3 333333333333333333333333333333333333/1000000000000000000000000000000000000")}, [][]flaw{row(2, 10, "1/6 1/6"), row(2, 2, "1/2 1")},
	)
}

// TestFirstFlaw: of two things that are wrong the first one is told, and each of
// them alone.
func TestFirstFlaw(t *testing.T) {
	places := flaws()
	checkCheck(t, "all well", plainNet(), api.OK)
	for i, first := range places {
		for _, f := range first {
			n := plainNet()
			f.do(&n)
			checkCheck(t, f.what, n, f.code)
			for _, later := range slices.Concat(places[i+1:]...) {
				n := plainNet()
				later.do(&n)
				f.do(&n)
				checkCheck(t, f.what+", and "+later.what, n, f.code)
			}
		}
	}
}

// TestSpoiltNets: networks that are spoilt in up to four places.
func TestSpoiltNets(t *testing.T) {
	w := writer{rand.New(rand.NewSource(196))}
	times := map[api.Errno]int{}
	for i := range 20000 {
		n := w.net(1 + i%4)
		for range w.Intn(4) {
			w.spoilNet(&n)
		}
		want := mayNot(n)
		times[want]++
		checkCheck(t, "spoilt", n, want)
	}
	for _, code := range []api.Errno{api.OK, api.ErrShape, api.ErrTwice, api.ErrMissing, api.ErrRange, api.ErrCycle, api.ErrEntry, api.ErrRow} {
		if times[code] < 40 {
			t.Errorf("%v comes %d times alone", code, times[code])
		}
	}
}

// spoilNet does something to a network, wherever it is.
func (w writer) spoilNet(n *api.Net) {
	number := func(x *int) { *x = w.Intn(7) - 1 }
	fraction := func(x *api.Rat) { *x = fractions("0 1 1/2 1/3 -1/2 3/2 1")[w.Intn(7)] }
	switch w.Intn(8) {
	case 0:
		spoilList(w, &n.Names, w.name)
	case 1:
		spoilList(w, &n.Values, func(l *[]string) { spoilList(w, l, w.name) })
	case 2, 3:
		spoilList(w, &n.Parents, func(l *[]int) { spoilList(w, l, number) })
	default:
		spoilList(w, &n.Tables, func(l *[]api.Rat) { spoilList(w, l, fraction) })
	}
}

// TestNumbersThatStandForOthers: what is not normal counts as what it says.
func TestNumbersThatStandForOthers(t *testing.T) {
	three := []string{"x", "y", "z"}
	half := api.Rat{Num: api.Int{Mag: api.Nat{3, 0}}, Den: api.Nat{6, 0, 0}}
	zero := api.Rat{Num: api.Int{Neg: true, Mag: api.Nat{0}}, Den: api.Nat{5}}
	checkCheck(t, "halves and 0", alone(three, nil, []api.Rat{half, half, zero}), api.OK)
	checkCheck(t, "1 over 0", alone(three, nil, []api.Rat{{Num: api.Int{Mag: api.Nat{1}}}, {}, zero}), api.OK)
	checkCheck(t, "2 over 0", alone(three, nil, []api.Rat{{Num: api.Int{Mag: api.Nat{2}}}, {}, zero}), api.ErrEntry)
	checkCheck(t, "halves", alone(three, nil, []api.Rat{half, half, half}), api.ErrRow)
}

// TestMostOfNets: MaxVars and MaxCells, and one more.
func TestMostOfNets(t *testing.T) {
	ones := func(count int) api.Net {
		return netOf(samples.RowOfParents(count), slices.Repeat([]int{1}, count), even)
	}
	checkCheck(t, "most", ones(api.MaxVars), api.OK)
	checkCheck(t, "one more", ones(api.MaxVars+1), api.ErrMany)
	n := ones(api.MaxVars + 1)
	n.Names[1], n.Values[0], n.Parents[5] = n.Names[0], nil, list("-7")
	checkCheck(t, "one more, and names", n, api.ErrMany)
	n.Tables = n.Tables[1:]
	checkCheck(t, "one more, and one less", n, api.ErrShape)
	for size, want := range map[int]api.Errno{65536: api.OK, 65537: api.ErrMany} {
		checkCheck(t, strconv.Itoa(size), netOf([][]int{nil}, []int{size}, even), want)
	}
	both := netOf(hung("| | 0 1"), list("256 64 4"), even)
	checkCheck(t, "65536 in three", both, api.OK)
	both.Values[2] = append(both.Values[2], "v4")
	checkCheck(t, "one value more", both, api.ErrMany)
	both.Tables[0] = nil
	checkCheck(t, "a wrong table ahead", both, api.ErrShape)
}

// TestHugeTablesOfNets: sizes that make more than an int holds.
func TestHugeTablesOfNets(t *testing.T) {
	for _, c := range []struct {
		sizes []int
		cells int
	}{
		{slices.Repeat([]int{2}, 32), 0}, {slices.Repeat([]int{2}, 64), 0}, {slices.Repeat([]int{2}, 65), 0}, {slices.Repeat([]int{2}, 1000), 2},
		{[]int{2, 7, 31, 673, 853, 1669, 5821, 7621}, 418}, {slices.Repeat([]int{1 << 16}, 4), 0},
	} {
		last := len(c.sizes) - 1
		n := netOf(make([][]int, len(c.sizes)), c.sizes, even)
		n.Parents[last] = samples.Numbers(last)
		n.Tables[last] = samples.Even(max(c.cells, 1))[:c.cells]
		checkCheck(t, "huge", n, api.ErrMany)
	}
}

// TestManyDenominators: a row whose numbers have hardly anything in common is
// judged by how much they are together all the same.
func TestManyDenominators(t *testing.T) {
	row := make([]api.Rat, 1<<12)
	for i := range row {
		row[i] = ratio(1, 100000+i)
	}
	row[0] = frac.Sub(ratio(1, 1), together(row[1:]))
	n := netOf([][]int{nil}, []int{len(row)}, func(int) []api.Rat { return row })
	checkCheck(t, "many denominators", n, api.OK)
	row[0] = frac.Sub(row[0], ratio(1, 1<<60))
	n.Tables[0] = row
	checkCheck(t, "a little less", n, api.ErrRow)
}

// together is the sum of some numbers, by pairs.
func together(l []api.Rat) api.Rat {
	for len(l) > 1 {
		var next []api.Rat
		for pair := range slices.Chunk(l, 2) {
			next = append(next, frac.Sum(pair...))
		}
		l = next
	}
	return l[0]
}
