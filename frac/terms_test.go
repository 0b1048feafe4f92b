package frac_test

import (
	"testing"

	"credence/api"
	"credence/frac"
	"credence/whole"
)

// 3.3: Terms; of 3.6: that the fraction can be made of them again.

// termsOf are all terms.
func termsOf(a api.Rat) []api.Int {
	var list []api.Int
	for term := range frac.Terms(a) {
		list = append(list, term)
	}
	return list
}

// checkTerms holds terms against what they should be.
func checkTerms(t *testing.T, what string, got []api.Int, want ...int) {
	t.Helper()
	if len(got) != len(want) {
		t.Fatalf("%s: %v, want %v", what, got, want)
	}
	for i, n := range want {
		checkInt(t, what, got[i], small(n, 1).Num)
	}
}

func TestTerms(t *testing.T) {
	for _, c := range []struct {
		a    api.Rat
		want []int
	}{
		{raw(43, 30), []int{1, 2, 3, 4}},
		{raw(-7, 3), []int{-3, 1, 2}},
		{raw(5, 1), []int{5}},
		{raw(-5, 1), []int{-5}},
		{raw(0, 1), []int{0}},
		{raw(1, 2), []int{0, 2}},
		{raw(-1, 2), []int{-1, 2}},
		{raw(-1, 3), []int{-1, 1, 2}},
		{raw(86, 60), []int{1, 2, 3, 4}},
		{raw(-14, 6), []int{-3, 1, 2}},
		{raw(10, 2), []int{5}},
		{raw(-5, 0), []int{-5}},
		{raw(415, 93), []int{4, 2, 6, 7}},
		{long(false, api.Nat{43, 0, 0}, api.Nat{30, 0}), []int{1, 2, 3, 4}},
		{long(false, api.Nat{0, 0, 43}, api.Nat{0, 0, 30}), []int{1, 2, 3, 4}},
	} {
		checkTerms(t, "Terms", termsOf(c.a), c.want...)
	}
	for _, a := range zeros() {
		checkTerms(t, "Terms of 0", termsOf(a), 0)
	}
}

func TestLongTerms(t *testing.T) {
	got := termsOf(long(true, api.Nat{1}, api.Nat{0, 0, 1}))
	if len(got) != 3 {
		t.Fatalf("Terms of -1/2^64: %v", got)
	}
	checkInt(t, "the first", got[0], whole.Of(-1))
	checkInt(t, "the second", got[1], whole.Of(1))
	checkInt(t, "the last", got[2], api.Int{Mag: api.Nat{full, full}})
}

// smallTerms are the terms by the chapter's words, with ints.
func smallTerms(num, den int) []int {
	var list []int
	for {
		down := floorOf(num, den)
		list = append(list, down)
		left := num - down*den
		if left == 0 {
			return list
		}
		num, den = den, left
	}
}

func TestSmallTerms(t *testing.T) {
	for _, n := range row(-60, 60) {
		for _, d := range row(1, 40) {
			checkTerms(t, "Terms", termsOf(raw(n, d)), smallTerms(n, d)...)
		}
	}
}

// TestTermsOfNeighbours: of neighbours in Fibonacci's row the terms are most:
// ones, and a last 2.
func TestTermsOfNeighbours(t *testing.T) {
	last, next := whole.Of(1), whole.Of(2)
	for n := 1; n < 300; n++ {
		want := make([]int, n)
		for i := range want {
			want[i] = 1
		}
		want[n-1] = 2
		checkTerms(t, "Terms", termsOf(api.Rat{Num: next, Den: last.Mag}), want...)
		last, next = next, whole.Add(last, next)
	}
}

// again is the fraction of some terms.
func again(t *testing.T, terms []api.Int) api.Rat {
	t.Helper()
	at := len(terms) - 1
	a := api.Rat{Num: terms[at], Den: api.Nat{1}}
	for at > 0 {
		at--
		turned, e := frac.Div(raw(1, 1), a)
		if e != api.OK {
			t.Fatalf("a term of 0 in %v", terms)
		}
		a = frac.Add(api.Rat{Num: terms[at], Den: api.Nat{1}}, turned)
	}
	return a
}

func TestTermsMakeTheFractionAgain(t *testing.T) {
	for _, a := range many() {
		terms := termsOf(a)
		check(t, "made again", again(t, terms), lowered(a))
		checkInt(t, "the first", terms[0], frac.Floor(a))
		for i, term := range terms {
			checkInt(t, "is normal", term, whole.Norm(term))
			if i > 0 && whole.Sign(term) <= 0 {
				t.Fatalf("Terms of %v: %v", a, terms)
			}
		}
		if n := len(terms); n > 1 && whole.Cmp(terms[n-1], whole.Of(1)) <= 0 {
			t.Fatalf("Terms of %v end with %v", a, terms[n-1])
		}
	}
}

// R9: what is gone over is as it was at the call.

func TestTermsAreThoseOfTheCall(t *testing.T) {
	a := long(true, api.Nat{14, 0}, api.Nat{6, 0})
	terms := frac.Terms(a)
	a.Num.Mag[0], a.Num.Mag[1], a.Den[0], a.Den[1] = 9, 9, 9, 9
	var got []api.Int
	for term := range terms {
		a.Den[0]++
		a.Num.Mag[0]--
		got = append(got, term)
	}
	checkTerms(t, "written over", got, -3, 1, 2)
}

func TestTermsMayBeStoppedAndGoneOverAgain(t *testing.T) {
	terms := frac.Terms(raw(43, 30))
	for stop := range 6 {
		want := []int{1, 2, 3, 4}
		var got []api.Int
		for term := range terms {
			if len(got) == stop {
				break
			}
			got = append(got, term)
		}
		checkTerms(t, "stopped", got, want[:min(stop, len(want))]...)
	}
	for outer := range terms {
		var got []api.Int
		for term := range terms {
			got = append(got, term)
		}
		checkTerms(t, "within "+whole.Text(outer), got, 1, 2, 3, 4)
	}
}

// TestTermsStopAtOnce: no more is told behind a stop.
func TestTermsStopAtOnce(t *testing.T) {
	for stop := 1; stop <= 4; stop++ {
		told := 0
		frac.Terms(raw(43, 30))(func(api.Int) bool {
			told++
			return told < stop
		})
		if told != stop {
			t.Errorf("stopped at %d, %d were told", stop, told)
		}
	}
}

// TestTermsMayBeWrittenOver: what becomes of a term changes no other one.
func TestTermsMayBeWrittenOver(t *testing.T) {
	for _, a := range few() {
		terms := frac.Terms(a)
		want := termsOf(a)
		for range 2 {
			at := 0
			for term := range terms {
				checkInt(t, "a term", term, want[at])
				at++
				room := term.Mag[:cap(term.Mag)]
				for i := range room {
					room[i] = 0x55aa55aa
				}
			}
			if at != len(want) {
				t.Fatalf("Terms of %v: %d, want %d", a, at, len(want))
			}
		}
	}
}
