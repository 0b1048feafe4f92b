package show_test

import (
	"strconv"
	"strings"
	"testing"

	"credence/api"
	"credence/frac"
	"credence/nat"
	"credence/parse"
	"credence/show"
)

// number is a term that is a number.
func number(a api.Rat) api.Term { return api.Term{Kind: api.TermNumber, Number: a} }

// whole is a term that is a small natural number.
func whole(n int) api.Term { return number(ratio(n, 1)) }

// sign is a term that is none.
func sign(kind int8) api.Term { return api.Term{Kind: kind} }

// ratio is a fraction as it is written here, not made normal.
func ratio(num, den int) api.Rat {
	return api.Rat{Num: api.Int{Neg: num < 0, Mag: nat.Of(uint64(max(num, -num)))}, Den: nat.Of(uint64(den))}
}

// terms are an expression as the chapter's examples write it: numbers, signs,
// n for TermNeg; k7 is a term of the kind 7.
func terms(t *testing.T, text string) []api.Term {
	t.Helper()
	var l []api.Term
	for _, word := range strings.Fields(text) {
		if kind := strings.Index("  +-*/n", word); kind > 0 {
			l = append(l, sign(int8(kind)))
			continue
		}
		if digits, ok := strings.CutPrefix(word, "k"); ok {
			kind, err := strconv.ParseInt(digits, 10, 8)
			if err != nil {
				t.Fatalf("%s is no term", word)
			}
			l = append(l, sign(int8(kind)))
			continue
		}
		a, e := frac.Parse(word)
		if e != api.OK {
			t.Fatalf("%s is no term", word)
		}
		l = append(l, number(a))
	}
	return l
}

// wording is an expression as the chapter's examples write it.
func wording(l []api.Term) string {
	var words []string
	for _, x := range l {
		switch {
		case x.Kind == api.TermNumber:
			words = append(words, frac.Text(x.Number))
		case x.Kind > api.TermNumber && x.Kind <= api.TermNeg:
			words = append(words, "  +-*/n"[x.Kind:x.Kind+1])
		default:
			words = append(words, "k"+strconv.Itoa(int(x.Kind)))
		}
	}
	return strings.Join(words, " ")
}

// checkTerms holds the text of an expression against what it should be.
func checkTerms(t *testing.T, l []api.Term, want string) {
	t.Helper()
	if got, e := show.Terms(l); e != api.OK || got != want {
		t.Fatalf("Terms(%.200s): %.200q, %v, want %.200q", wording(l), got, e, want)
	}
}

// checkNoTerms holds the error of an expression against what it should be.
func checkNoTerms(t *testing.T, l []api.Term, want api.Errno) {
	t.Helper()
	if got, e := show.Terms(l); e != want || got != "" {
		t.Fatalf("Terms(%.200s): %.200q, %v, want %v", wording(l), got, e, want)
	}
}

// checkFile holds the text of a file against its lines.
func checkFile(t *testing.T, f api.File, lines ...string) {
	t.Helper()
	want := strings.Join(lines, "\n") + "\n"
	if got, e := show.File(f); e != api.OK || got != want {
		t.Fatalf("File(%v): %v\n%s, want\n%s", f, e, got, want)
	}
}

// checkNoFile holds the error of a file against what it should be.
func checkNoFile(t *testing.T, f api.File, want api.Errno) {
	t.Helper()
	if got, e := show.File(f); e != want || got != "" {
		t.Fatalf("File(%v): %q, %v, want %v", f, got, e, want)
	}
}

// textOf is the text of a file that has one.
func textOf(t *testing.T, f api.File) string {
	t.Helper()
	text, e := show.File(f)
	if e != api.OK {
		t.Fatalf("File(%v): %v", f, e)
	}
	return text
}

// checkNet holds the text of a network against its lines.
func checkNet(t *testing.T, n api.Net, lines ...string) {
	t.Helper()
	want := strings.Join(lines, "\n") + "\n"
	if got, e := show.Net(n); e != api.OK || got != want {
		t.Fatalf("Net(%v): %v\n%s, want\n%s", n, e, got, want)
	}
}

// checkNoNet holds the error of a network against what it should be.
func checkNoNet(t *testing.T, n api.Net, want api.Errno) {
	t.Helper()
	if got, e := show.Net(n); e != want || got != "" {
		t.Fatalf("Net: %.200q, %v, want %v", got, e, want)
	}
}

// row are the sums of a row's text, as layer 7 reads it.
func row(t *testing.T, text string) [][]api.Term {
	t.Helper()
	l, err := parse.Numbers(text)
	if err != nil {
		t.Fatalf("Numbers(%.200q): %v", text, err)
	}
	return l
}
