package ring_test

import (
	"slices"
	"testing"

	"credence/api"
	"credence/frac"
	"credence/ring"
	"credence/samples"
)

// full is the greatest limb.
const full = 1<<32 - 1

// read is the fraction of a text; a text that is none is a slip of the test.
func read(text string) api.Rat {
	a, e := frac.Parse(text)
	if e != api.OK {
		panic(text + " is no fraction")
	}
	return a
}

// readAll are the fractions of some texts.
func readAll(texts ...string) []api.Rat {
	var list []api.Rat
	for _, s := range texts {
		list = append(list, read(s))
	}
	return list
}

// slope is the slope of two texts.
func slope(at, by string) ring.Slope { return ring.Slope{At: read(at), By: read(by)} }

// long is a fraction of some limbs over others, the lowest first.
func long(neg bool, num, den api.Nat) api.Rat {
	return api.Rat{Num: api.Int{Neg: neg, Mag: num}, Den: den}
}

// wide is a fraction with noughts ahead.
func wide(a api.Rat) api.Rat {
	return long(a.Num.Neg, slices.Concat(a.Num.Mag, api.Nat{0, 0}), slices.Concat(a.Den, api.Nat{0}))
}

// sameSlope is whether two slopes are the same, limb by limb.
func sameSlope(a, b ring.Slope) bool {
	return samples.SameLimbs(a.At, b.At) && samples.SameLimbs(a.By, b.By)
}

// checkRat holds an answer against the normal fraction that it should be.
func checkRat(t *testing.T, what string, got, want api.Rat) {
	t.Helper()
	if !samples.SameLimbs(got, want) {
		t.Fatalf("%s: %v, want %v", what, got, want)
	}
}

// checkSlope holds an answer against the normal slope that it should be.
func checkSlope(t *testing.T, what string, got, want ring.Slope) {
	t.Helper()
	if !sameSlope(got, want) {
		t.Fatalf("%s: %v, want %v", what, got, want)
	}
}

// checkSame holds what Same tells against what it should tell, either way
// round.
func checkSame[T any](t *testing.T, r ring.Ring[T], a, b T, want bool) {
	t.Helper()
	if r.Same(a, b) != want || r.Same(b, a) != want || !r.Same(a, a) || !r.Same(b, b) {
		t.Fatalf("%T: Same of %v and %v is %v, %v, of themselves %v, %v", r, a, b, r.Same(a, b), r.Same(b, a), r.Same(a, a), r.Same(b, b))
	}
}

// small are fractions of numbers of one limb, normal and not; those over 0
// stand for whole numbers.
func small() []api.Rat {
	var list []api.Rat
	for num := -5; num <= 5; num++ {
		for den := range 5 {
			list = append(list, samples.Ratio(num, den))
		}
	}
	return append(list, zeros()...)
}

// zeros are fractions that say 0.
func zeros() []api.Rat {
	return []api.Rat{{}, {Num: api.Int{Neg: true}}, {Num: api.Int{Neg: true, Mag: api.Nat{0}}, Den: api.Nat{7}}, {Num: api.Int{Mag: api.Nat{0, 0}}, Den: api.Nat{0, 0}}, {Num: api.Int{Mag: api.Nat{}}, Den: api.Nat{}}}
}

// odd are fractions of all kinds: 0, 1 and others, short and long, normal and
// not.
func odd() []api.Rat {
	limbs := samples.Nats(4, 5)
	return []api.Rat{
		{}, samples.Ratio(1, 1), samples.Ratio(-6, 4), samples.Ratio(3, 0), long(true, api.Nat{0, 0}, api.Nat{5, 0}),
		long(false, api.Nat{full, full, 0}, api.Nat{6}), long(true, limbs[0], limbs[1]), long(false, limbs[2], limbs[3]),
	}
}

// notBelow are fractions turned to the side above 0.
func notBelow(list []api.Rat) []api.Rat {
	list = slices.Clone(list)
	for i := range list {
		list[i].Num.Neg = false
	}
	return list
}

// slopes are each of some numbers, growing by each of some.
func slopes(ats, bys []api.Rat) []ring.Slope {
	var list []ring.Slope
	for _, at := range ats {
		for _, by := range bys {
			list = append(list, ring.Slope{At: at, By: by})
		}
	}
	return list
}
