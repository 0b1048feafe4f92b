package parse_test

import (
	"math/rand"
	"strings"
	"testing"

	"credence/api"
	"credence/lex"
	"credence/nat"
)

// 7.1: File.

func TestExamplesOfFiles(t *testing.T) {
	const two = `network n { property "a"; property "b"; } variable x { type discrete [2] { u, v }; }`
	want := api.File{Name: "n", Properties: []string{"a", "b"}, Vars: []api.VarDecl{{Name: "x", Count: nat.Of(2), Values: []string{"u", "v"}}}}
	checkFile(t, "network n { }", api.File{Name: "n"})
	checkFile(t, two, want)
	want.Probs = []api.ProbDecl{{Name: "x", Parents: []string{"y", "z"}, Properties: []string{"p"}, Entries: []api.Entry{
		{Kind: api.EntryTable, Numbers: row(t, "1")},
		{Kind: api.EntryRow, Given: []string{"u", "v"}, Numbers: row(t, "0, 1")},
		{Kind: api.EntryDefault, Numbers: row(t, "1")},
	}}}
	checkFile(t, two+`probability (x | y, z) { table 1; (u, v) 0, 1; property "p"; default 1; }`, want)
}

func TestExampleOfTheWhole(t *testing.T) {
	checkFile(t, rain, api.File{
		Name:       "rain",
		Properties: []string{"a small one"},
		Vars: []api.VarDecl{
			{Name: "rain", Count: nat.Of(2), Values: []string{"no", "yes"}},
			{Name: "grass", Count: nat.Of(2), Values: []string{"dry", "wet"}},
		},
		Probs: []api.ProbDecl{
			{Name: "rain", Entries: []api.Entry{{Kind: api.EntryTable, Numbers: row(t, "0.8, 1/5")}}},
			{Name: "grass", Parents: []string{"rain"}, Entries: []api.Entry{
				{Kind: api.EntryRow, Given: []string{"no"}, Numbers: row(t, "9/10, 1/10")},
				{Kind: api.EntryDefault, Numbers: row(t, "(1 - 0.9), 0.9")},
			}},
		},
	})
}

// TestWordsAsNames: any name may be a name, wherever one stands.
func TestWordsAsNames(t *testing.T) {
	for _, name := range []string{"network", "property", "variable", "type", "discrete", "probability", "table", "default", "NAME", "_", "e1", strings.Repeat("x", 64)} {
		text := strings.ReplaceAll(`network N { } variable N { type discrete [1] { N, N }; } probability (N | N, N) { (N, N) 1; table 1; default 1; } probability (N) { }`, "N", name)
		names := []string{name, name}
		checkFile(t, text, api.File{
			Name: name,
			Vars: []api.VarDecl{{Name: name, Count: nat.Of(1), Values: names}},
			Probs: []api.ProbDecl{{Name: name, Parents: names, Entries: []api.Entry{
				{Kind: api.EntryRow, Given: names, Numbers: row(t, "1")},
				{Kind: api.EntryTable, Numbers: row(t, "1")},
				{Kind: api.EntryDefault, Numbers: row(t, "1")},
			}}, {Name: name}},
		})
	}
}

func TestCounts(t *testing.T) {
	for _, digits := range []string{"0", "1", "2", "007", "00", "4294967295", "4294967296", "18446744073709551616", strings.Repeat("9", 1000), strings.Repeat("0", 1000) + "5"} {
		count, e := nat.Parse(digits)
		if e != api.OK {
			t.Fatalf("%s is no number", digits)
		}
		checkFile(t, "network n { } variable x { type discrete ["+digits+"] { a }; }", api.File{Name: "n", Vars: []api.VarDecl{{Name: "x", Count: count, Values: []string{"a"}}}})
	}
}

func TestProperties(t *testing.T) {
	for _, means := range []string{"", "a", `"`, `\`, "property", ";", "}", " // x", "/*", "\x00\xff\t\r", strings.Repeat("long ", 1000)} {
		p := "property " + lex.Quote(means) + ";"
		list := []string{means, means}
		checkFile(t, "network n {"+p+p+"} variable x { type discrete [1] { a };"+p+p+"} probability (x) {"+p+"default 1;"+p+"}", api.File{
			Name:       "n",
			Properties: list,
			Vars:       []api.VarDecl{{Name: "x", Count: nat.Of(1), Values: []string{"a"}, Properties: list}},
			Probs:      []api.ProbDecl{{Name: "x", Properties: list, Entries: []api.Entry{{Kind: api.EntryDefault, Numbers: row(t, "1")}}}},
		})
	}
}

// TestNoNameIsAskedFor: what a file says need not make sense.
func TestNoNameIsAskedFor(t *testing.T) {
	variable := api.VarDecl{Name: "a", Count: nat.Of(9), Values: []string{"a", "a"}}
	prob := api.ProbDecl{Name: "b", Parents: []string{"b", "c", "c"}, Entries: []api.Entry{
		{Kind: api.EntryDefault, Numbers: row(t, "5, 1/0")},
		{Kind: api.EntryTable, Numbers: row(t, "-7")},
		{Kind: api.EntryTable, Numbers: row(t, "1")},
		{Kind: api.EntryRow, Given: []string{"q"}, Numbers: row(t, "2")},
	}}
	const v = "variable a { type discrete [9] { a, a }; }"
	const p = "probability (b | b, c, c) { default 5, 1/0; table -7; table 1; (q) 2; }"
	checkFile(t, "network n { }"+p+v+v+p+p+v, api.File{Name: "n", Vars: []api.VarDecl{variable, variable, variable}, Probs: []api.ProbDecl{prob, prob, prob}})
}

// maker makes files and their texts by chance, the same ones at each run.
type maker struct {
	*testing.T
	*rand.Rand
	text strings.Builder
}

// write puts words behind the text, and something between them.
func (m *maker) write(words ...string) {
	for _, word := range words {
		fillers := []string{" ", "\n", "\t ", " /* x */", " // y\n", " /**/ ", "\r\n"}
		m.text.WriteString(word + fillers[m.Intn(len(fillers))])
	}
}

// name makes a name.
func (m *maker) name() string {
	list := []string{"a", "b", "x1", "_", "table", "default", "property", "network", "variable", "probability", "type", "discrete"}
	name := list[m.Intn(len(list))]
	m.write(name)
	return name
}

// names makes at least so many names with commas between.
func (m *maker) names(least int) []string {
	var list []string
	for i := range least + m.Intn(4) {
		if i > 0 {
			m.write(",")
		}
		list = append(list, m.name())
	}
	return list
}

// property makes a property.
func (m *maker) property() string {
	means := []string{"", "a b", `say "x"`, `\`, "}", ";", "// no"}[m.Intn(7)]
	m.write("property", lex.Quote(means), ";")
	return means
}

// properties makes some.
func (m *maker) properties() []string {
	var list []string
	for range m.Intn(3) {
		list = append(list, m.property())
	}
	return list
}

// variable makes a variable.
func (m *maker) variable() api.VarDecl {
	m.write("variable")
	v := api.VarDecl{Name: m.name()}
	v.Count = nat.Of(uint64(m.Intn(100)))
	m.write("{", "type", "discrete", "[", nat.Text(v.Count), "]", "{")
	v.Values = m.names(1)
	m.write("}", ";")
	v.Properties = m.properties()
	m.write("}")
	return v
}

// probability makes a probability.
func (m *maker) probability() api.ProbDecl {
	m.write("probability", "(")
	p := api.ProbDecl{Name: m.name()}
	if m.Intn(2) == 0 {
		m.write("|")
		p.Parents = m.names(1)
	}
	m.write(")", "{")
	for range m.Intn(5) {
		if m.Intn(3) == 0 {
			p.Properties = append(p.Properties, m.property())
			continue
		}
		p.Entries = append(p.Entries, m.entry())
	}
	m.write("}")
	return p
}

// entry makes an entry.
func (m *maker) entry() api.Entry {
	x := api.Entry{Kind: int8(m.Intn(3) + 1)}
	switch x.Kind {
	case api.EntryTable:
		m.write("table")
	case api.EntryDefault:
		m.write("default")
	case api.EntryRow:
		m.write("(")
		x.Given = m.names(1)
		m.write(")")
	}
	rows := []string{"1", "0.5, 1/2", "-(1 - 2), 3 * 4 / 5", "--1, (2), 1e-3, 4 - 5 - 6"}
	numbers := rows[m.Intn(len(rows))]
	x.Numbers = row(m.T, numbers)
	m.write(numbers, ";")
	return x
}

func TestMadeFiles(t *testing.T) {
	source := rand.New(rand.NewSource(77))
	for range 3000 {
		m := &maker{T: t, Rand: source}
		m.write("network")
		f := api.File{Name: m.name()}
		m.write("{")
		f.Properties = m.properties()
		m.write("}")
		for range m.Intn(6) {
			if m.Intn(2) == 0 {
				f.Vars = append(f.Vars, m.variable())
			} else {
				f.Probs = append(f.Probs, m.probability())
			}
		}
		checkFile(t, m.text.String(), f)
	}
}
