package ring_test

import (
	"testing"

	"credence/api"
	"credence/frac"
	"credence/ring"
	"credence/samples"
)

// 12.1: Rats and Most.

// fractions are the rings of fractions.
func fractions() []ring.Ring[api.Rat] { return []ring.Ring[api.Rat]{ring.Rats{}, ring.Most{}} }

// TestEndsOfRats: 0 is 0 over 1, 1 is 1 over 1.
func TestEndsOfRats(t *testing.T) {
	for _, r := range fractions() {
		checkRat(t, "Zero", r.Zero(), long(false, nil, api.Nat{1}))
		checkRat(t, "One", r.One(), long(false, api.Nat{1}, api.Nat{1}))
	}
}

// greater is the greater one of two pairs.
func greater(a, b samples.Pair) samples.Pair {
	if a.Minus(b).Num < 0 {
		return b
	}
	return a
}

// TestSmallRats: all twos of small fractions, held against pairs.
func TestSmallRats(t *testing.T) {
	rats, most := ring.Rats{}, ring.Most{}
	for _, a := range small() {
		for _, b := range small() {
			x, y := samples.PairOf(a), samples.PairOf(b)
			checkRat(t, "Rats.Add", rats.Add(a, b), x.Plus(y).Rat())
			checkRat(t, "Rats.Mul", rats.Mul(a, b), x.Times(y).Rat())
			checkRat(t, "Most.Add", most.Add(a, b), greater(x, y).Rat())
			checkRat(t, "Most.Mul", most.Mul(a, b), x.Times(y).Rat())
			for _, r := range fractions() {
				checkSame(t, r, a, b, x == y)
			}
		}
	}
}

// TestWideRats: noughts ahead and common divisors say nothing, in long numbers
// too.
func TestWideRats(t *testing.T) {
	for _, r := range fractions() {
		for _, a := range odd() {
			for _, b := range odd() {
				x, y := frac.Sum(a), frac.Sum(b)
				checkRat(t, "Add", r.Add(wide(a), b), r.Add(x, y))
				checkRat(t, "Add, the other way", r.Add(b, wide(a)), r.Add(y, x))
				checkRat(t, "Mul", r.Mul(wide(a), b), r.Mul(x, y))
				checkRat(t, "Mul, the other way", r.Mul(b, wide(a)), r.Mul(y, x))
				checkSame(t, r, wide(a), b, samples.SameLimbs(x, y))
			}
		}
	}
}

// TestLongRats: fractions have no ends, and the greater one may be so by little.
func TestLongRats(t *testing.T) {
	rats, most := ring.Rats{}, ring.Most{}
	one := read("1")
	high, higher := long(false, api.Nat{full, full, full}, api.Nat{1}), long(false, api.Nat{0, 0, 0, 1}, api.Nat{1})
	checkRat(t, "Rats.Add", rats.Add(high, one), higher)
	checkRat(t, "Rats.Mul", rats.Mul(higher, long(true, api.Nat{1}, api.Nat{0, 0, 1})), long(true, api.Nat{0, 1}, api.Nat{1}))
	checkRat(t, "Most.Mul", most.Mul(high, long(false, api.Nat{1}, api.Nat{full, full, full})), one)
	// Of both the lower numbers are as long: 1/(2^96 - 1) is above 1/2^96.
	less, more := long(false, api.Nat{1}, api.Nat{0, 0, 0, 1}), long(false, api.Nat{1}, api.Nat{full, full, full})
	for _, c := range []struct{ less, more api.Rat }{{high, higher}, {less, more}, {frac.Neg(more), frac.Neg(less)}, {frac.Neg(higher), less}} {
		checkRat(t, "Most.Add", most.Add(c.less, c.more), c.more)
		checkRat(t, "Most.Add, the other way", most.Add(c.more, c.less), c.more)
		checkSame[api.Rat](t, rats, c.less, c.more, false)
		checkSame[api.Rat](t, most, c.less, c.more, false)
	}
}

// TestMostOfOneTwice: of two that are the same number it is that one, in lowest
// terms, however either is written.
func TestMostOfOneTwice(t *testing.T) {
	most := ring.Most{}
	checkRat(t, "2/4 and 1/2", most.Add(samples.Ratio(2, 4), samples.Ratio(1, 2)), read("1/2"))
	checkRat(t, "1/2 and 2/4", most.Add(samples.Ratio(1, 2), samples.Ratio(2, 4)), read("1/2"))
	checkRat(t, "3 over 0 and 6/2", most.Add(samples.Ratio(3, 0), samples.Ratio(6, 2)), read("3"))
	for _, a := range zeros() {
		for _, b := range zeros() {
			checkRat(t, "0 and 0", most.Add(a, b), read("0"))
		}
	}
}
