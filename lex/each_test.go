package lex_test

import (
	"slices"
	"testing"

	"credence/api"
	"credence/lex"
)

// 6.2: Each, R9. What it goes over is held against Scan by check.

func TestAheadOfFault(t *testing.T) {
	check(t, "a 1 .", words{token(1, "a", 1, 1), token(2, "1", 1, 3)}, fault(api.ErrByte, 1, 5, "."))
	check(t, "\"x\";\n/* ", words{token(3, "x", 1, 1), token(4, ";", 1, 4)}, fault(api.ErrText, 2, 1, "/*"))
	check(t, "(\"\\", words{token(4, "(", 1, 1)}, fault(api.ErrText, 1, 2, `"`))
}

// TestNeverNil: also where there is nothing but the end, or a fault.
func TestNeverNil(t *testing.T) {
	for _, text := range []string{"", " ", ".", "a"} {
		if lex.Each(text) == nil {
			t.Errorf("Each(%q) is nil", text)
		}
	}
}

// first is what an iterator gives if it is stopped behind so many.
func first(text string, count int) []step {
	var steps []step
	for x, err := range lex.Each(text) {
		steps = append(steps, step{x, err == nil, faultOf(err)})
		if len(steps) == count {
			break
		}
	}
	return steps
}

// TestStopped: stopped anywhere it gives what it gave up to there.
func TestStopped(t *testing.T) {
	for _, text := range append(longer(), "a .", "1e", "a /*", "x y \"") {
		all := collected(lex.Each(text))
		for count := 1; count <= len(all); count++ {
			if got := first(text, count); !slices.Equal(got, all[:count]) {
				t.Fatalf("Each(%q), stopped behind %d: %v", text, count, got)
			}
		}
	}
}

// TestAgain: it begins at the start each time, whatever became of it before.
func TestAgain(t *testing.T) {
	for _, text := range append(longer(), "a b .", "1e", "a\n/*") {
		each := lex.Each(text)
		want := collected(lex.Each(text))
		for range each {
			break
		}
		for range 3 {
			if got := collected(each); !slices.Equal(got, want) {
				t.Fatalf("Each(%q), once more: %v, want %v", text, got, want)
			}
		}
	}
}

// TestWithinItself: one that is gone over within itself does not mind.
func TestWithinItself(t *testing.T) {
	text := "a 1\n\"x\" ; ."
	each := lex.Each(text)
	want := collected(lex.Each(text))
	var outer []step
	for x, err := range each {
		outer = append(outer, step{x, err == nil, faultOf(err)})
		if inner := collected(each); !slices.Equal(inner, want) {
			t.Fatalf("the inner one: %v, want %v", inner, want)
		}
	}
	if !slices.Equal(outer, want) {
		t.Fatalf("the outer one: %v, want %v", outer, want)
	}
}

// TestFaultsApart: a fault that was told may be written over.
func TestFaultsApart(t *testing.T) {
	each := lex.Each(".")
	for range 2 {
		for _, err := range each {
			f, ok := err.(*api.Fault)
			if !ok || *f != fault(api.ErrByte, 1, 1, ".") {
				t.Fatalf("Each of a point: %v", err)
			}
			*f = api.Fault{}
		}
	}
}
