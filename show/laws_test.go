package show_test

import (
	"math/rand"
	"reflect"
	"strings"
	"testing"

	"credence/api"
	"credence/frac"
	"credence/nat"
	"credence/parse"
	"credence/samples"
	"credence/show"
)

// 8.4: what follows.

// normalTerms is an expression with its numbers normal, and nothing where
// nothing counts.
func normalTerms(l []api.Term) []api.Term {
	var out []api.Term
	for _, x := range l {
		if x.Kind == api.TermNumber {
			out = append(out, samples.Number(frac.Sum(x.Number)))
			continue
		}
		out = append(out, samples.Sign(x.Kind))
	}
	return out
}

// normalFile is a file with its numbers normal, and nothing where nothing
// counts; lists without elements are nil.
func normalFile(f api.File) api.File {
	some := func(l []string) []string { return append([]string(nil), l...) }
	out := api.File{Name: f.Name, Properties: some(f.Properties)}
	for _, v := range f.Vars {
		out.Vars = append(out.Vars, api.VarDecl{Name: v.Name, Count: nat.Norm(v.Count), Values: some(v.Values), Properties: some(v.Properties)})
	}
	for _, p := range f.Probs {
		q := api.ProbDecl{Name: p.Name, Parents: some(p.Parents), Properties: some(p.Properties)}
		for _, e := range p.Entries {
			entry := api.Entry{Kind: e.Kind}
			if e.Kind == api.EntryRow {
				entry.Given = some(e.Given)
			}
			for _, sum := range e.Numbers {
				entry.Numbers = append(entry.Numbers, normalTerms(sum))
			}
			q.Entries = append(q.Entries, entry)
		}
		out.Probs = append(out.Probs, q)
	}
	return out
}

// sameTerms is whether two expressions are the same, limb by limb.
func sameTerms(a, b []api.Term) bool {
	if len(a) != len(b) {
		return false
	}
	for i := range a {
		x, y := a[i].Number, b[i].Number
		if a[i].Kind != b[i].Kind || x.Num.Neg != y.Num.Neg || !sameNat(x.Num.Mag, y.Num.Mag) || !sameNat(x.Den, y.Den) {
			return false
		}
	}
	return true
}

// sameNat is whether two numbers have the same limbs.
func sameNat(a, b api.Nat) bool { return len(a) == len(b) && nat.Cmp(a, b) == 0 }

// empty turns all lists without elements into nil ones: both are the same.
func empty(v reflect.Value) {
	switch v.Kind() {
	case reflect.Slice:
		if v.Len() == 0 && v.CanSet() {
			v.SetZero()
		}
		for i := range v.Len() {
			empty(v.Index(i))
		}
	case reflect.Struct:
		for i := range v.NumField() {
			empty(v.Field(i))
		}
	}
}

// sameFile is whether two files say the same, limb by limb.
func sameFile(a, b api.File) bool {
	empty(reflect.ValueOf(&a).Elem())
	empty(reflect.ValueOf(&b).Elem())
	return reflect.DeepEqual(a, b)
}

// checkRead holds what is read of an expression's text against the expression.
func checkRead(t *testing.T, l []api.Term) string {
	t.Helper()
	text, e := show.Terms(l)
	if e != api.OK {
		t.Fatalf("Terms(%.200s): %v", samples.Wording(l), e)
	}
	got, err := parse.Numbers(text)
	if err != nil || len(got) != 1 || !sameTerms(got[0], normalTerms(l)) {
		t.Fatalf("Terms(%.200s) is %.200q, read as %d sums, %v", samples.Wording(l), text, len(got), err)
	}
	checkTerms(t, got[0], text)
	return text
}

// pairs are a text's brackets: where each opens and where it closes.
func pairs(text string) [][2]int {
	var open []int
	var list [][2]int
	for i, c := range text {
		switch c {
		case '(':
			open = append(open, i)
		case ')':
			list = append(list, [2]int{open[len(open)-1], i})
			open = open[:len(open)-1]
		}
	}
	return list
}

// checkNeeded holds a text without any one of its brackets, or a half of it,
// against its expression: it is read as another one, or as none.
func checkNeeded(t *testing.T, l []api.Term, text string) {
	t.Helper()
	for _, p := range pairs(text) {
		inner := text[p[0]+1 : p[1]]
		for _, without := range []string{
			text[:p[0]] + inner + text[p[1]+1:],
			text[:p[0]] + " " + inner + " " + text[p[1]+1:],
			text[:p[0]] + inner + text[p[1]:],
			text[:p[1]] + text[p[1]+1:],
		} {
			got, err := parse.Numbers(without)
			if err == nil && len(got) == 1 && sameTerms(got[0], normalTerms(l)) {
				t.Fatalf("%q and %q are both %s", text, without, samples.Wording(l))
			}
		}
	}
}

// TestExpressionsThereAndBack: all short expressions, and made ones.
func TestExpressionsThereAndBack(t *testing.T) {
	for l := range samples.Expressions(8) {
		checkNeeded(t, l, checkRead(t, l))
	}
	source := rand.New(rand.NewSource(84))
	for range 1000 {
		l := samples.Piled(source.Intn, samples.Grown(source.Intn, source.Intn(12)), source.Intn(30))
		if _, e := show.Terms(l); e == api.OK {
			checkNeeded(t, l, checkRead(t, l))
		}
	}
	for _, a := range []api.Rat{{}, ratio(3, 6), ratio(5, 0), ratio(0, 7), {Num: api.Int{Neg: true, Mag: api.Nat{0}}}, {Num: api.Int{Mag: api.Nat{4, 0}}, Den: api.Nat{8, 0}}} {
		checkRead(t, []api.Term{samples.Number(a), {Kind: api.TermNeg, Number: ratio(1, 3)}})
	}
}

// maker makes files by chance.
type maker struct{ *rand.Rand }

// some are up to most of what one makes, at least so many.
func some[T any](m maker, least, most int, one func() T) []T {
	var l []T
	for range least + m.Intn(most-least+1) {
		l = append(l, one())
	}
	return l
}

// name makes a name, and text a property's text.
func (m maker) name() string { return names()[m.Intn(len(names()))] }
func (m maker) text() string {
	return []string{"", "a b", `say "x"`, `\`, "}", ";", "// no", "\r\t\x00\xfe"}[m.Intn(8)]
}

// sum makes an expression.
func (m maker) sum() []api.Term {
	if m.Intn(3) > 0 {
		return samples.Grown(m.Intn, m.Intn(3))
	}
	return samples.Piled(m.Intn, samples.Grown(m.Intn, m.Intn(4)), m.Intn(80))
}

// variable makes a variable.
func (m maker) variable() api.VarDecl {
	return api.VarDecl{Name: m.name(), Count: nat.Of(m.Uint64() >> m.Intn(64)), Values: some(m, 1, 3, m.name), Properties: some(m, 0, 2, m.text)}
}

// entry makes an entry.
func (m maker) entry() api.Entry {
	return api.Entry{Kind: int8(m.Intn(3) + 1), Given: some(m, 1, 3, m.name), Numbers: some(m, 1, 3, m.sum)}
}

// probability makes a probability.
func (m maker) probability() api.ProbDecl {
	return api.ProbDecl{Name: m.name(), Parents: some(m, 0, 3, m.name), Entries: some(m, 0, 3, m.entry), Properties: some(m, 0, 2, m.text)}
}

// file makes a file.
func (m maker) file() api.File {
	return api.File{Name: m.name(), Properties: some(m, 0, 2, m.text), Vars: some(m, 0, 3, m.variable), Probs: some(m, 0, 3, m.probability)}
}

// TestFilesThereAndBack: what is written of a file is read as that file.
func TestFilesThereAndBack(t *testing.T) {
	m := maker{rand.New(rand.NewSource(85))}
	read := 0
	for range 1200 {
		f := m.file()
		text, e := show.File(f)
		if e == api.ErrDeep {
			continue
		}
		got, err := parse.File(text)
		if e != api.OK || err != nil || !sameFile(got, normalFile(f)) {
			t.Fatalf("File(%v) is %v\n%s, read as %v, %v", f, e, text, got, err)
		}
		if again := textOf(t, got); again != text {
			t.Fatalf("File(%v) is\n%s, and then\n%s", f, text, again)
		}
		read++
	}
	if read < 400 {
		t.Errorf("%d files alone", read)
	}
	whole := all(t)
	if got, err := parse.File(textOf(t, whole)); err != nil || !sameFile(got, whole) {
		t.Errorf("%v, read as %v, %v", whole, got, err)
	}
}

// TestTextsThereAndBack: what is read and written and read again is the same.
func TestTextsThereAndBack(t *testing.T) {
	for _, text := range []string{
		"network n { }",
		"network rain { property \"a small one\"; }\nvariable rain { type discrete [2] { no, yes }; }\nvariable grass { type discrete [2] { dry, wet }; }\nprobability (rain) { table 0.8, 1/5; }\nprobability (grass | rain) {\n  (no) 9/10, 1/10;\n  default (1 - 0.9), 0.9;\n}\n",
		"network n{}probability(a){property\"p\";table 1;property\"q\";}variable a{type discrete[007]{b,c};}probability(a|b){(c)((1)+(-(2)))*(3/(4)),--(5-6),1e3,1.50e-2;}",
		"network n { } // so\nprobability (x | y /* z */) { default 1 - (2 * 3), (1 - 2) * 3, 1 / (2 / 3), (1 / 2) / 3, -(-1), -(1) * 2; }",
		"network n { } probability (x) { table " + strings.Repeat("(", 64) + "1" + strings.Repeat(")", 64) + ", " + strings.Repeat("-", 64) + "1, 1e1000, 1e-1000; }",
	} {
		first, err := parse.File(text)
		if err != nil {
			t.Fatalf("%q: %v", text, err)
		}
		written := textOf(t, first)
		second, err := parse.File(written)
		if err != nil || !sameFile(first, second) {
			t.Fatalf("%q is written as\n%s, read as %v, %v", text, written, second, err)
		}
		if again := textOf(t, second); again != written {
			t.Fatalf("%q is written as\n%s, and then\n%s", text, written, again)
		}
	}
}

// TestNetsThereAndBack: what is written of a network is a file, and written
// again it is the same text.
func TestNetsThereAndBack(t *testing.T) {
	source := rand.New(rand.NewSource(86))
	for range 500 {
		n := made(source)
		text, e := show.Net(n)
		f, err := parse.File(text)
		if e != api.OK || err != nil || len(f.Vars) != len(n.Names) || len(f.Probs) != len(n.Names) {
			t.Fatalf("Net(%v) is %v\n%s, read as %v, %v", n, e, text, f, err)
		}
		if again := textOf(t, f); again != text {
			t.Fatalf("Net(%v) is\n%s, and then\n%s", n, text, again)
		}
	}
}
