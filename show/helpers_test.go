package show_test

import (
	"strings"
	"testing"

	"credence/api"
	"credence/parse"
	"credence/samples"
	"credence/show"
)

// ratio is a fraction as it is written here, not made normal.
func ratio(num, den int) api.Rat { return samples.Ratio(num, den) }

// checkTerms holds the text of an expression against what it should be.
func checkTerms(t *testing.T, l []api.Term, want string) {
	t.Helper()
	if got, e := show.Terms(l); e != api.OK || got != want {
		t.Fatalf("Terms(%.200s): %.200q, %v, want %.200q", samples.Wording(l), got, e, want)
	}
}

// checkNoTerms holds the error of an expression against what it should be.
func checkNoTerms(t *testing.T, l []api.Term, want api.Errno) {
	t.Helper()
	if got, e := show.Terms(l); e != want || got != "" {
		t.Fatalf("Terms(%.200s): %.200q, %v, want %v", samples.Wording(l), got, e, want)
	}
}

// checkFile holds the text of a file against its lines.
func checkFile(t *testing.T, f api.File, lines ...string) {
	t.Helper()
	want := strings.Join(lines, "\n") + "\n"
	if got, e := show.File(f); e != api.OK || got != want {
		t.Fatalf("File(%v): %v\n%s, want\n%s", f, e, got, want)
	}
}

// checkNoFile holds the error of a file against what it should be.
func checkNoFile(t *testing.T, f api.File, want api.Errno) {
	t.Helper()
	if got, e := show.File(f); e != want || got != "" {
		t.Fatalf("File(%v): %q, %v, want %v", f, got, e, want)
	}
}

// textOf is the text of a file that has one.
func textOf(t *testing.T, f api.File) string {
	t.Helper()
	text, e := show.File(f)
	if e != api.OK {
		t.Fatalf("File(%v): %v", f, e)
	}
	return text
}

// checkNet holds the text of a network against its lines.
func checkNet(t *testing.T, n api.Net, lines ...string) {
	t.Helper()
	want := strings.Join(lines, "\n") + "\n"
	if got, e := show.Net(n); e != api.OK || got != want {
		t.Fatalf("Net(%v): %v\n%s, want\n%s", n, e, got, want)
	}
}

// checkNoNet holds the error of a network against what it should be.
func checkNoNet(t *testing.T, n api.Net, want api.Errno) {
	t.Helper()
	if got, e := show.Net(n); e != want || got != "" {
		t.Fatalf("Net: %.200q, %v, want %v", got, e, want)
	}
}

// row are the sums of a row's text, as layer 7 reads it.
func row(t *testing.T, text string) [][]api.Term {
	t.Helper()
	l, err := parse.Numbers(text)
	if err != nil {
		t.Fatalf("Numbers(%.200q): %v", text, err)
	}
	return l
}
