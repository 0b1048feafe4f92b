package model_test

import (
	"errors"
	"math/rand"
	"strings"
	"testing"

	"credence/api"
	"credence/model"
	"credence/parse"
	"credence/samples"
	"credence/show"
)

// 19.4: Load.

// TestExamplesOfLoad: the chapter's rows.
func TestExamplesOfLoad(t *testing.T) {
	n := load(t, samples.RainText)
	if !identical(n, rain()) || n.Name != "rain" || wording(n.Tables[0]) != "4/5 1/5" || wording(n.Tables[1]) != "9/10 1/10 1/10 9/10" {
		t.Errorf("the example: %v", n)
	}
	n = load(t, "network n { }")
	chance, e := model.Chance(n, nil)
	if !identical(n, api.Net{Name: "n"}) || model.Check(n) != api.OK || e != api.OK || !samples.SameLimbs(chance, ratio(1, 1)) {
		t.Errorf("no variables: %v, %v, %v", n, chance, e)
	}
	checkFault(t, "network", api.Fault{Code: api.ErrSyntax, Line: 1, Col: 8})
}

// TestNoFile: what is no file is told as parse.File tells it, whatever else is
// wrong with it; each text that is cut off is none.
func TestNoFile(t *testing.T) {
	texts := []string{
		"", "\"", "1e", "network 1", "network n { }\nvariable x { type discrete [2.0] { a }; }", instead("0.8", "0.8.1"), instead("1/5", "?"), instead("1/5", "1/"), instead("(1 - 0.9)", strings.Repeat("-", 65)+"1"),
		instead("1/5; }\n", "1/5; }\nvariable"), instead("dry, wet", "dry, dry")[:150], instead("dry, wet", "dry, dry") + "}", instead("9/10, 1/10", "2") + "x",
	}
	end := strings.LastIndex(samples.RainText, "}")
	for i := range end {
		// Behind a whole part of the file something else may be wrong.
		if !strings.HasSuffix(strings.TrimSpace(samples.RainText[:i]), "}") {
			texts = append(texts, samples.RainText[:i])
		}
	}
	for _, text := range texts {
		_, err := parse.File(text)
		var fault *api.Fault
		if !errors.As(err, &fault) {
			t.Fatalf("%q is a file", text)
		}
		checkFault(t, text, *fault)
	}
}

// TestWrongFiles: what is wrong with a file has no place.
func TestWrongFiles(t *testing.T) {
	for _, c := range []struct {
		old, new string
		want     api.Errno
	}{
		{"variable grass", "variable rain", api.ErrTwice}, {"| rain", "| rian", api.ErrUnknown}, {"| rain", "| grass", api.ErrUnknown}, {"(no) 9/10, 1/10;", "", api.OK}, {"| rain) {\n  (no) 9/10, 1/10;", "| grass) {", api.ErrCycle},
		{"[2] { dry, wet }", "[1] { dry, wet }", api.ErrExtra}, {"[2] { dry, wet }", "[99999999999999999999999] { dry, wet }", api.ErrMissing}, {"[2] { dry, wet }", "[002] { dry, wet }", api.OK},
		{"0.8, 1/5", "1.8, -0.8", api.ErrEntry}, {"0.8, 1/5", "0.8, 1/(1 - 1)", api.ErrEntry}, {"0.8, 1/5", "0.8, 0.2000001", api.ErrRow}, {"0.8, 1/5", "8e-1, 2e-1", api.OK}, {"0.8, 1/5", "1 - 1e-1000, 1e-1000", api.OK},
	} {
		text := instead(c.old, c.new)
		if c.want == api.OK {
			load(t, text)
			continue
		}
		checkFault(t, text, api.Fault{Code: c.want})
	}
}

// TestLoadIsElaborate: of files that may be wrong, once as what is read and once
// as text.
func TestLoadIsElaborate(t *testing.T) {
	w := writer{rand.New(rand.NewSource(195))}
	for i := range 3000 {
		f := w.file(w.net(i % 5))
		for range w.Intn(3) {
			w.spoil(&f)
		}
		text, e := show.File(f)
		if e != api.OK {
			continue
		}
		n, code := model.Elaborate(f)
		if code != api.OK {
			checkFault(t, text, api.Fault{Code: code})
			continue
		}
		if got := load(t, text); !identical(got, n) {
			t.Fatalf("Load(%q): %v, want %v", text, got, n)
		}
	}
}
