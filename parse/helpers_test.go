package parse_test

import (
	"errors"
	"slices"
	"strings"
	"testing"

	"credence/api"
	"credence/frac"
	"credence/nat"
	"credence/parse"
)

// fault is a fault by its parts.
func fault(code api.Errno, line, col int, word string) api.Fault {
	return api.Fault{Code: code, Line: line, Col: col, Word: word}
}

// faultOf is the fault of an error: the one without a code, if there is none.
func faultOf(err error) api.Fault {
	var f *api.Fault
	if !errors.As(err, &f) || f == nil {
		return api.Fault{}
	}
	return *f
}

// sumText is a sum as the chapter's examples write it.
func sumText(sum []api.Term) string {
	var parts []string
	for _, x := range sum {
		switch {
		case x.Kind == api.TermNumber:
			parts = append(parts, frac.Text(x.Number))
		case x.Number.Num.Neg || x.Number.Num.Mag != nil || x.Number.Den != nil:
			parts = append(parts, "a sign with a number")
		case x.Kind < 1 || x.Kind > api.TermNeg:
			parts = append(parts, "no term")
		default:
			parts = append(parts, []string{"", "", "+", "-", "*", "/", "neg"}[x.Kind])
		}
	}
	return strings.Join(parts, " ")
}

// rowText is a row as the chapter's examples write it.
func rowText(row [][]api.Term) string {
	var sums []string
	for _, sum := range row {
		sums = append(sums, sumText(sum))
	}
	return strings.Join(sums, "; ")
}

// fileText is all that a file says, each list with its length: two files are
// the same just if their texts are.
func fileText(f api.File) string {
	var b strings.Builder
	names := func(what string, list []string) {
		b.WriteString(what + ":")
		for _, name := range list {
			b.WriteString(" <" + name + ">")
		}
		b.WriteString("\n")
	}
	names("network", []string{f.Name})
	names("properties", f.Properties)
	for _, v := range f.Vars {
		names("variable", []string{v.Name, nat.Text(v.Count)})
		names("values", v.Values)
		names("properties", v.Properties)
	}
	for _, p := range f.Probs {
		names("probability", []string{p.Name})
		names("parents", p.Parents)
		for _, x := range p.Entries {
			names("entry "+string('0'+rune(x.Kind)), x.Given)
			names("numbers", []string{rowText(x.Numbers)})
		}
		names("properties", p.Properties)
	}
	return b.String()
}

// isEmpty is whether a file is the empty one.
func isEmpty(f api.File) bool {
	return f.Name == "" && len(f.Properties)+len(f.Vars)+len(f.Probs) == 0
}

// checkNumbers holds a text that is a row against what it says.
func checkNumbers(t *testing.T, text, want string) {
	t.Helper()
	got, err := parse.Numbers(text)
	if err != nil || rowText(got) != want {
		t.Fatalf("Numbers(%.200q): %.200s, %v, want %.200s", text, rowText(got), err, want)
	}
	for _, sum := range got {
		if !slices.ContainsFunc(sum, func(x api.Term) bool { return x.Kind == api.TermNumber }) {
			t.Fatalf("Numbers(%.200q): a sum without numbers", text)
		}
	}
}

// checkNoRow holds a text that is no row against its fault.
func checkNoRow(t *testing.T, text string, want api.Fault) {
	t.Helper()
	got, err := parse.Numbers(text)
	if len(got) != 0 || faultOf(err) != want {
		t.Fatalf("Numbers(%.200q): %d sums, %v, want %v", text, len(got), err, &want)
	}
}

// checkFile holds a text that is a file against what it says.
func checkFile(t *testing.T, text string, want api.File) {
	t.Helper()
	got, err := parse.File(text)
	if err != nil || fileText(got) != fileText(want) {
		t.Fatalf("File(%.500q): %v\n%s, want\n%s", text, err, fileText(got), fileText(want))
	}
}

// checkNoFile holds a text that is no file against its fault.
func checkNoFile(t *testing.T, text string, want api.Fault) {
	t.Helper()
	got, err := parse.File(text)
	if !isEmpty(got) || faultOf(err) != want {
		t.Fatalf("File(%.500q): %v, %v, want %v", text, got, err, &want)
	}
}

// row is what a text says that is a row; what Numbers says of it is held
// against what is wanted elsewhere.
func row(t *testing.T, text string) [][]api.Term {
	t.Helper()
	got, err := parse.Numbers(text)
	if err != nil {
		t.Fatalf("Numbers(%q): %v", text, err)
	}
	return got
}

// rain is the example of DOC.md's 'Files'.
const rain = `network rain { property "a small one"; }
variable rain { type discrete [2] { no, yes }; }
variable grass { type discrete [2] { dry, wet }; }
probability (rain) { table 0.8, 1/5; }
probability (grass | rain) {
  (no) 9/10, 1/10;
  default (1 - 0.9), 0.9;
}
`

// files are texts that are files, with all that a file may have in them.
func files() []string {
	return []string{
		"network n { }",
		rain,
		`network network { property "p"; property ""; property "a\"b\\"; }`,
		`network n { } variable x { type discrete [2] { u, v }; property "a"; property "b"; } variable y { type discrete [0] { w }; }`,
		`network n { } probability (x) { } variable x { type discrete [1] { v }; } probability (x | y, z) { property "p"; table 1; (u, v) 0, 1; property "q"; default 1; }`,
		`network n { } probability (a | b) { (c) (1 + -2) * 3 / (4), --(5 - 6); }`,
	}
}

// others are words to put where they may not stand: of each kind, each sign,
// each word that means something, and texts that mean one of these.
func others() []string {
	list := []string{
		"network", "property", "variable", "type", "discrete", "probability", "table", "default", "a",
		"1", "2.0", "1e2", "0", `""`, `"a"`, `"table"`, `"property"`, `"("`, `"}"`, `"2"`, `"-"`,
	}
	return append(list, strings.Split("{ } ( ) [ ] , ; | = + - * /", " ")...)
}
