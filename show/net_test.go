package show_test

import (
	"math"
	"math/rand"
	"slices"
	"strconv"
	"strings"
	"testing"

	"credence/api"
	"credence/frac"
	"credence/show"
)

// 8.3: Net.

// rain is the network of the chapter's examples.
func rain() api.Net {
	return api.Net{
		Name:    "a",
		Names:   []string{"r", "g"},
		Values:  [][]string{{"no", "yes"}, {"dry", "wet"}},
		Parents: [][]int{nil, {0}},
		Tables:  [][]api.Rat{{ratio(4, 5), ratio(1, 5)}, {ratio(1, 1), ratio(0, 1), ratio(1, 3), ratio(2, 3)}},
	}
}

func TestExamplesOfNets(t *testing.T) {
	checkNet(t, rain(),
		"network a {", "}",
		"variable r {", "  type discrete [2] { no, yes };", "}",
		"variable g {", "  type discrete [2] { dry, wet };", "}",
		"probability (r) {", "  table 4/5, 1/5;", "}",
		"probability (g | r) {", "  (no) 1, 0;", "  (yes) 1/3, 2/3;", "}")
	n := rain()
	n.Tables = n.Tables[:1]
	checkNoNet(t, n, api.ErrShape)
	n = rain()
	n.Parents[1][0] = 7
	checkNoNet(t, n, api.ErrShape)
	n = rain()
	n.Tables[1] = n.Tables[1][:3]
	checkNoNet(t, n, api.ErrShape)
}

// TestFractions: how a fraction is written, whatever stands for it.
func TestFractions(t *testing.T) {
	long := strings.Repeat("7", 5000)
	longer, e := frac.Parse("-" + long + "/1" + strings.Repeat("0", 6000))
	if e != api.OK {
		t.Fatal(e)
	}
	for _, c := range []struct {
		a    api.Rat
		want string
	}{
		{ratio(0, 1), "0"}, {ratio(1, 1), "1"}, {ratio(5, 1), "5"}, {ratio(1, 2), "1/2"}, {ratio(7, 3), "7/3"},
		{ratio(-1, 1), "-1"}, {ratio(-2, 3), "-2/3"}, {ratio(-7, 2), "-7/2"},
		{ratio(2, 4), "1/2"}, {ratio(-6, 4), "-3/2"}, {ratio(4, 2), "2"}, {ratio(-4, 2), "-2"}, {ratio(0, 5), "0"}, {ratio(3, 0), "3"}, {ratio(-3, 0), "-3"}, {api.Rat{}, "0"},
		{api.Rat{Num: api.Int{Neg: true}, Den: api.Nat{5}}, "0"},
		{api.Rat{Num: api.Int{Neg: true, Mag: api.Nat{3, 0}}, Den: api.Nat{6, 0, 0}}, "-1/2"},
		{ratio(1<<62, 3), "4611686018427387904/3"}, {longer, "-" + long + "/1" + strings.Repeat("0", 6000)},
	} {
		n := api.Net{Name: "n", Names: []string{"x"}, Values: [][]string{{"u", "v"}}, Parents: [][]int{nil}, Tables: [][]api.Rat{{c.a, ratio(1, 2)}}}
		checkNet(t, n, "network n {", "}", "variable x {", "  type discrete [2] { u, v };", "}", "probability (x) {", "  table "+c.want+", 1/2;", "}")
	}
}

// numbered are the fractions 0, 1, 2 and so on.
func numbered(count int) []api.Rat {
	var l []api.Rat
	for i := range count {
		l = append(l, ratio(i, 1))
	}
	return l
}

// TestRows: the last parent's value changes fastest.
func TestRows(t *testing.T) {
	n := api.Net{
		Name:    "n",
		Names:   []string{"x", "y", "z"},
		Values:  [][]string{{"a", "b", "c"}, {"d"}, {"e", "f"}},
		Parents: [][]int{{2, 1, 0}, {0, 2}, {}},
		Tables:  [][]api.Rat{numbered(18), numbered(6), numbered(2)},
	}
	checkNet(t, n,
		"network n {", "}",
		"variable x {", "  type discrete [3] { a, b, c };", "}",
		"variable y {", "  type discrete [1] { d };", "}",
		"variable z {", "  type discrete [2] { e, f };", "}",
		"probability (x | z, y, x) {",
		"  (e, d, a) 0, 1, 2;", "  (e, d, b) 3, 4, 5;", "  (e, d, c) 6, 7, 8;",
		"  (f, d, a) 9, 10, 11;", "  (f, d, b) 12, 13, 14;", "  (f, d, c) 15, 16, 17;",
		"}",
		"probability (y | x, z) {", "  (a, e) 0;", "  (a, f) 1;", "  (b, e) 2;", "  (b, f) 3;", "  (c, e) 4;", "  (c, f) 5;", "}",
		"probability (z) {", "  table 0, 1;", "}")
}

// TestSmallNets: a network without variables, and ones with lists nil or empty.
func TestSmallNets(t *testing.T) {
	checkNet(t, api.Net{Name: "n"}, "network n {", "}")
	checkNet(t, api.Net{Name: "n", Names: []string{}, Values: [][]string{}, Parents: [][]int{}, Tables: [][]api.Rat{}}, "network n {", "}")
	checkNoNet(t, api.Net{}, api.ErrSyntax)
	for _, parents := range [][]int{nil, {}} {
		checkNet(t, api.Net{Name: "n", Names: []string{"x"}, Values: [][]string{{"u"}}, Parents: [][]int{parents}, Tables: [][]api.Rat{{ratio(1, 1)}}},
			"network n {", "}", "variable x {", "  type discrete [1] { u };", "}", "probability (x) {", "  table 1;", "}")
	}
	checkNet(t, api.Net{Name: "n", Names: []string{"x"}, Values: [][]string{{"u"}}, Parents: [][]int{{0, 0}}, Tables: [][]api.Rat{{ratio(1, 1)}}},
		"network n {", "}", "variable x {", "  type discrete [1] { u };", "}", "probability (x | x, x) {", "  (u, u) 1;", "}")
}

// misshaped are ways in which the lists of a network do not fit.
func misshaped() []func(n *api.Net) {
	return []func(n *api.Net){
		func(n *api.Net) { n.Names = n.Names[:1] },
		func(n *api.Net) { n.Names = append(n.Names, "h") },
		func(n *api.Net) { n.Names = nil },
		func(n *api.Net) { n.Values = n.Values[:1] },
		func(n *api.Net) { n.Values = append(n.Values, []string{"u"}) },
		func(n *api.Net) { n.Values = nil },
		func(n *api.Net) { n.Parents = n.Parents[:1] },
		func(n *api.Net) { n.Parents = append(n.Parents, nil) },
		func(n *api.Net) { n.Parents = nil },
		func(n *api.Net) { n.Tables = n.Tables[:1] },
		func(n *api.Net) { n.Tables = append(n.Tables, nil) },
		func(n *api.Net) { n.Tables = nil },
		func(n *api.Net) { n.Parents[1][0] = -1 },
		func(n *api.Net) { n.Parents[1][0] = 2 },
		func(n *api.Net) { n.Parents[1][0] = math.MaxInt },
		func(n *api.Net) { n.Parents[1][0] = math.MinInt },
		func(n *api.Net) { n.Parents[0] = []int{2}; n.Tables[0] = numbered(4) },
		func(n *api.Net) { n.Parents[1] = nil },
		func(n *api.Net) { n.Parents[1] = []int{0, 0} },
		func(n *api.Net) { n.Values[0] = nil },
		func(n *api.Net) { n.Values[0], n.Tables[0] = nil, nil },
		func(n *api.Net) { n.Values[1] = []string{} },
		func(n *api.Net) { n.Values[1], n.Tables[1] = nil, nil },
		func(n *api.Net) { n.Values[0], n.Tables[0], n.Tables[1] = nil, nil, nil },
		func(n *api.Net) { n.Values[0], n.Tables[0], n.Tables[1] = nil, numbered(1), numbered(2) },
		func(n *api.Net) { n.Values[0] = []string{"no", "yes", "maybe"} },
		func(n *api.Net) { n.Tables[0] = nil },
		func(n *api.Net) { n.Tables[0] = numbered(1) },
		func(n *api.Net) { n.Tables[0] = numbered(3) },
		func(n *api.Net) { n.Tables[0] = numbered(4) },
		func(n *api.Net) { n.Tables[1] = nil },
		func(n *api.Net) { n.Tables[1] = numbered(1) },
		func(n *api.Net) { n.Tables[1] = numbered(2) },
		func(n *api.Net) { n.Tables[1] = numbered(3) },
		func(n *api.Net) { n.Tables[1] = numbered(5) },
		func(n *api.Net) { n.Tables[1] = numbered(8) },
	}
}

// TestShape: what does not fit is told, also ahead of all that is wrong with
// the file.
func TestShape(t *testing.T) {
	for _, spoil := range misshaped() {
		n := rain()
		spoil(&n)
		checkNoNet(t, n, api.ErrShape)
		n.Name = ""
		for i := range n.Names {
			n.Names[i] = "1"
		}
		checkNoNet(t, n, api.ErrShape)
	}
}

// TestWrongNames: what File says of the network's names.
func TestWrongNames(t *testing.T) {
	for _, place := range []func(n *api.Net) *string{
		func(n *api.Net) *string { return &n.Name },
		func(n *api.Net) *string { return &n.Names[0] },
		func(n *api.Net) *string { return &n.Names[1] },
		func(n *api.Net) *string { return &n.Values[0][1] },
		func(n *api.Net) *string { return &n.Values[1][0] },
	} {
		for _, name := range noNames() {
			n := rain()
			*place(&n) = name
			checkNoNet(t, n, api.ErrSyntax)
		}
		for _, name := range names() {
			n := rain()
			*place(&n) = name
			if text, e := show.Net(n); e != api.OK || !strings.Contains(text, name) {
				t.Errorf("Net with %q: %q, %v", name, text, e)
			}
		}
	}
}

// sized is a network of a variable without parents for each size, and one that
// hangs on all of them.
func sized(sizes []int, own, cells int) api.Net {
	n := api.Net{Name: "n"}
	var parents []int
	for i, size := range append(slices.Clone(sizes), own) {
		n.Names = append(n.Names, "x"+strconv.Itoa(i))
		n.Values = append(n.Values, slices.Repeat([]string{"v"}, size))
		n.Parents = append(n.Parents, nil)
		n.Tables = append(n.Tables, numbered(size))
		parents = append(parents, i)
	}
	n.Parents[len(sizes)] = parents[:len(sizes)]
	n.Tables[len(sizes)] = numbered(cells)
	return n
}

// TestHugeTables: sizes that make more than an int holds fit no table.
func TestHugeTables(t *testing.T) {
	for _, c := range []struct {
		sizes      []int
		own, cells int
	}{
		{slices.Repeat([]int{2}, 63), 2, 0},
		{slices.Repeat([]int{2}, 64), 1, 0},
		{slices.Repeat([]int{2}, 200), 3, 0},
		{slices.Repeat([]int{2}, 62), 2, 2},
		{slices.Repeat([]int{1 << 16}, 4), 1, 0},
		{slices.Repeat([]int{1 << 16}, 4), 5, 1},
		// These make 2^64 and 418.
		{[]int{2, 7, 31, 673, 853, 1669, 5821}, 7621, 418},
		{[]int{7621, 5821, 1669, 853, 673, 31, 7}, 2, 418},
	} {
		checkNoNet(t, sized(c.sizes, c.own, c.cells), api.ErrShape)
	}
	for _, c := range []struct {
		sizes []int
		own   int
	}{{slices.Repeat([]int{1}, 500), 3}, {slices.Repeat([]int{2}, 10), 2}, {[]int{300, 1, 7}, 5}} {
		cells := c.own
		for _, size := range c.sizes {
			cells *= size
		}
		text, e := show.Net(sized(c.sizes, c.own, cells))
		if e != api.OK || strings.Count(text, ", "+strconv.Itoa(cells-1)+";\n") != 1 {
			t.Errorf("%v: %d bytes, %v", c.sizes, len(text), e)
		}
	}
}

// made is a network by chance that fits; it need not make sense.
func made(source *rand.Rand) api.Net {
	n := api.Net{Name: "net"}
	count := source.Intn(5)
	for i := range count {
		n.Names = append(n.Names, "x"+strconv.Itoa(source.Intn(9)))
		values := []string{}
		for range source.Intn(3) + 1 {
			values = append(values, "v"+strconv.Itoa(i)+strconv.Itoa(source.Intn(9)))
		}
		n.Values = append(n.Values, values)
	}
	for i := range count {
		var parents []int
		cells := len(n.Values[i])
		for range source.Intn(4) {
			p := source.Intn(count)
			parents = append(parents, p)
			cells *= len(n.Values[p])
		}
		var table []api.Rat
		for range cells {
			table = append(table, ratio(source.Intn(21)-10, source.Intn(7)))
		}
		n.Parents, n.Tables = append(n.Parents, parents), append(n.Tables, table)
	}
	return n
}

// choices are all choices of the values of some variables, the last one's
// changing fastest, as they stand in a row.
func choices(n api.Net, vars []int) []string {
	if len(vars) == 0 {
		return []string{""}
	}
	var all []string
	for _, value := range n.Values[vars[0]] {
		for _, rest := range choices(n, vars[1:]) {
			all = append(all, strings.TrimSuffix(value+", "+rest, ", "))
		}
	}
	return all
}

// linesOf is the text of a network, line by line, written straight.
func linesOf(n api.Net) []string {
	lines := []string{"network " + n.Name + " {", "}"}
	for v, name := range n.Names {
		lines = append(lines, "variable "+name+" {", "  type discrete ["+strconv.Itoa(len(n.Values[v]))+"] { "+strings.Join(n.Values[v], ", ")+" };", "}")
	}
	for v, name := range n.Names {
		head := name
		for i, p := range n.Parents[v] {
			head += []string{" | ", ", "}[min(i, 1)] + n.Names[p]
		}
		lines = append(lines, "probability ("+head+") {")
		next := n.Tables[v]
		for _, choice := range choices(n, n.Parents[v]) {
			var numbers []string
			for _, a := range next[:len(n.Values[v])] {
				numbers = append(numbers, frac.Text(a))
			}
			next = next[len(n.Values[v]):]
			front := "  table "
			if len(n.Parents[v]) > 0 {
				front = "  (" + choice + ") "
			}
			lines = append(lines, front+strings.Join(numbers, ", ")+";")
		}
		lines = append(lines, "}")
	}
	return lines
}

func TestMadeNets(t *testing.T) {
	source := rand.New(rand.NewSource(83))
	for range 1000 {
		n := made(source)
		checkNet(t, n, linesOf(n)...)
		if len(n.Tables) > 0 {
			v := source.Intn(len(n.Tables))
			n.Tables[v] = append(n.Tables[v], api.Rat{})
			checkNoNet(t, n, api.ErrShape)
		}
	}
}
