package expr_test

import (
	"iter"
	"slices"
	"strings"
	"testing"

	"credence/api"
	"credence/expr"
	"credence/frac"
	"credence/samples"
)

// read is the fraction of a text; a text that is none is a slip of the test.
func read(text string) api.Rat {
	a, e := frac.Parse(text)
	if e != api.OK {
		panic(text + " is no fraction")
	}
	return a
}

// isZero is whether a fraction is Go's zero value, or lists without elements.
func isZero(a api.Rat) bool { return samples.SameLimbs(a, api.Rat{}) }

// parts are the four numbers of a line.
func parts(f api.Line) []api.Rat { return []api.Rat{f.A, f.B, f.C, f.D} }

// lineText is a line as the chapter's examples write it.
func lineText(f api.Line) string {
	return strings.Join([]string{frac.Text(f.A), frac.Text(f.B), frac.Text(f.C), frac.Text(f.D)}, " ")
}

// checkDeep holds how deep an expression is against what it should be.
func checkDeep(t *testing.T, l []api.Term, want int) {
	t.Helper()
	if got, e := expr.Deep(l); e != api.OK || got != want {
		t.Fatalf("Deep(%.200s): %d, %v, want %d", samples.Wording(l), got, e, want)
	}
}

// checkNoDeep looks for ErrSyntax.
func checkNoDeep(t *testing.T, l []api.Term) {
	t.Helper()
	if got, e := expr.Deep(l); e != api.ErrSyntax || got != 0 {
		t.Fatalf("Deep(%.200s): %d, %v, want %v", samples.Wording(l), got, e, api.ErrSyntax)
	}
}

// checkValue holds an expression's value against the normal one that it should
// be.
func checkValue(t *testing.T, l []api.Term, want api.Rat) {
	t.Helper()
	if got, e := expr.Eval(l); e != api.OK || !samples.SameLimbs(got, want) {
		t.Fatalf("Eval(%.200s): %.200s, %v, want %.200s", samples.Wording(l), frac.Text(got), e, frac.Text(want))
	}
}

// checkNoValue looks for an error of Eval, and for nothing beside it.
func checkNoValue(t *testing.T, l []api.Term, want api.Errno) {
	t.Helper()
	if got, e := expr.Eval(l); e != want || !isZero(got) {
		t.Fatalf("Eval(%.200s): %.200s, %v, want %v", samples.Wording(l), frac.Text(got), e, want)
	}
}

// checkLine holds a line against what it should be, as the chapter's examples
// write it.
func checkLine(t *testing.T, l []api.Term, at int, want string) {
	t.Helper()
	got, e := expr.Line(l, at)
	if e != api.OK || lineText(got) != want {
		t.Fatalf("Line(%.200s, %d): %.200s, %v, want %.200s", samples.Wording(l), at, lineText(got), e, want)
	}
	for _, a := range parts(got) {
		if !samples.SameLimbs(a, frac.Sum(a)) {
			t.Fatalf("Line(%.200s, %d): %v is not normal", samples.Wording(l), at, a)
		}
	}
}

// checkNoLine looks for an error of Line, and for nothing beside it.
func checkNoLine(t *testing.T, l []api.Term, at int, want api.Errno) {
	t.Helper()
	got, e := expr.Line(l, at)
	if e != want || !isZero(got.A) || !isZero(got.B) || !isZero(got.C) || !isZero(got.D) {
		t.Fatalf("Line(%.200s, %d): %.200s, %v, want %v", samples.Wording(l), at, lineText(got), e, want)
	}
}

// places are those of an expression's numbers.
func places(l []api.Term) []int {
	var list []int
	for i, x := range l {
		if x.Kind == api.TermNumber {
			list = append(list, i)
		}
	}
	return list
}

// with is a list with a number at a place.
func with(l []api.Term, at int, a api.Rat) []api.Term {
	l = slices.Clone(l)
	l[at].Number = a
	return l
}

// filled goes over a list with each choice of some numbers in the places of its
// own. What it hands out is good until it goes on.
func filled(l []api.Term, numbers []api.Rat) iter.Seq[[]api.Term] {
	return func(yield func([]api.Term) bool) {
		l, open := slices.Clone(l), places(l)
		var fill func(i int) bool
		fill = func(i int) bool {
			if i == len(open) {
				return yield(l)
			}
			for _, a := range numbers {
				l[open[i]].Number = a
				if !fill(i + 1) {
					return false
				}
			}
			return true
		}
		fill(0)
	}
}

// numbers are small ones to fill lists with: 0, 1, 2, and -1/2, not normal.
func numbers() []api.Rat {
	return []api.Rat{samples.Ratio(0, 3), samples.Ratio(1, 1), samples.Ratio(2, 0), samples.Ratio(-2, 4)}
}
