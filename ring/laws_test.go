package ring_test

import (
	"math/rand"
	"slices"
	"testing"

	"credence/api"
	"credence/frac"
	"credence/ring"
	"credence/samples"
)

// 12.4: what follows.

// judge holds two answers of a ring against each other, by its own Same and by
// what they look like.
type judge[T any] struct {
	ring.Ring[T]
	alike func(a, b T) bool
}

func (j judge[T]) check(t *testing.T, what string, got, want T) {
	t.Helper()
	if !j.Same(got, want) || !j.alike(got, want) {
		t.Fatalf("%T: %s: %v and %v", j.Ring, what, got, want)
	}
}

// checkLaws: what holds of any three things.
func (j judge[T]) checkLaws(t *testing.T, a, b, c T) {
	t.Helper()
	j.check(t, "a + b", j.Add(a, b), j.Add(b, a))
	j.check(t, "a b", j.Mul(a, b), j.Mul(b, a))
	j.check(t, "a + b + c", j.Add(j.Add(a, b), c), j.Add(a, j.Add(b, c)))
	j.check(t, "a b c", j.Mul(j.Mul(a, b), c), j.Mul(a, j.Mul(b, c)))
	j.check(t, "a (b + c)", j.Mul(a, j.Add(b, c)), j.Add(j.Mul(a, b), j.Mul(a, c)))
	j.check(t, "(a + b) c", j.Mul(j.Add(a, b), c), j.Add(j.Mul(a, c), j.Mul(b, c)))
}

// checkEnds: what Zero and One do to a thing; plain is the thing itself, as an
// answer would be.
func (j judge[T]) checkEnds(t *testing.T, a, plain T) {
	t.Helper()
	j.check(t, "0 + a", j.Add(j.Zero(), a), plain)
	j.check(t, "a + 0", j.Add(a, j.Zero()), plain)
	j.check(t, "1 a", j.Mul(j.One(), a), plain)
	j.check(t, "a 1", j.Mul(a, j.One()), plain)
	j.check(t, "0 a", j.Mul(j.Zero(), a), j.Zero())
	j.check(t, "a 0", j.Mul(a, j.Zero()), j.Zero())
	j.check(t, "the sum of a alone", ring.Sum(j.Ring, a), plain)
	j.check(t, "the product of a alone", ring.Product(j.Ring, a), plain)
}

// checkLists: sums and products of many, in another order and in pieces.
func (j judge[T]) checkLists(t *testing.T, list []T, source *rand.Rand) {
	t.Helper()
	for range 40 {
		l := make([]T, source.Intn(7))
		for i := range l {
			l[i] = list[source.Intn(len(list))]
		}
		sum, product := ring.Sum(j.Ring, l...), ring.Product(j.Ring, l...)
		at := source.Intn(len(l) + 1)
		j.check(t, "a sum of two sums", j.Add(ring.Sum(j.Ring, l[:at]...), ring.Sum(j.Ring, l[at:]...)), sum)
		j.check(t, "a product of two products", j.Mul(ring.Product(j.Ring, l[:at]...), ring.Product(j.Ring, l[at:]...)), product)
		j.checkSpread(t, l[:at], l[at:])
		l = slices.Clone(l)
		source.Shuffle(len(l), func(a, b int) { l[a], l[b] = l[b], l[a] })
		j.check(t, "a sum in another order", ring.Sum(j.Ring, l...), sum)
		j.check(t, "a product in another order", ring.Product(j.Ring, l...), product)
	}
}

// checkSpread: a product of two sums is the sum of all products.
func (j judge[T]) checkSpread(t *testing.T, a, b []T) {
	t.Helper()
	var each []T
	for _, x := range a {
		for _, y := range b {
			each = append(each, j.Mul(x, y))
		}
	}
	j.check(t, "a product of two sums", j.Mul(ring.Sum(j.Ring, a...), ring.Sum(j.Ring, b...)), ring.Sum(j.Ring, each...))
}

// checkPowers: n times and m times are n + m times; n times, m times, are n m.
func (j judge[T]) checkPowers(t *testing.T, a T) {
	t.Helper()
	for n := range 5 {
		for m := range 5 {
			j.check(t, "n + m times", j.Mul(power(t, j.Ring, a, n), power(t, j.Ring, a, m)), power(t, j.Ring, a, n+m))
			j.check(t, "n m times", power(t, j.Ring, power(t, j.Ring, a, n), m), power(t, j.Ring, a, n*m))
		}
		j.check(t, "n of it", ring.Product(j.Ring, slices.Repeat([]T{a}, n)...), power(t, j.Ring, a, n))
	}
}

// checkRing: all that follows of some things; plain makes a thing what an answer
// would be.
func (j judge[T]) checkRing(t *testing.T, list []T, plain func(T) T) {
	t.Helper()
	for _, a := range list {
		j.checkEnds(t, a, plain(a))
		j.checkPowers(t, a)
		for _, b := range list {
			for _, c := range list {
				j.checkLaws(t, a, b, c)
			}
		}
	}
	j.checkLists(t, list, rand.New(rand.NewSource(124)))
}

// sum1 is a fraction as an answer would be.
func sum1(a api.Rat) api.Rat { return frac.Sum(a) }

// equal is whether two are equal; itself is the thing that it is handed.
func equal[T comparable](a, b T) bool { return a == b }
func itself[T any](a T) T             { return a }

func TestLawsOfRats(t *testing.T) {
	j := judge[api.Rat]{ring.Rats{}, samples.SameLimbs}
	j.checkRing(t, odd(), sum1)
	j.checkRing(t, small()[:30], sum1)
}

// TestLawsOfMost: among numbers that are not below 0.
func TestLawsOfMost(t *testing.T) {
	j := judge[api.Rat]{ring.Most{}, samples.SameLimbs}
	j.checkRing(t, notBelow(odd()), sum1)
	j.checkRing(t, notBelow(small()[:30]), sum1)
}

func TestLawsOfBools(t *testing.T) {
	judge[bool]{ring.Bools{}, equal[bool]}.checkRing(t, []bool{false, true}, itself[bool])
}

func TestLawsOfInts(t *testing.T) {
	judge[int]{ring.Ints{}, equal[int]}.checkRing(t, ints(), itself[int])
}

func TestLawsOfSlopes(t *testing.T) {
	j := judge[ring.Slope]{ring.Slopes{}, sameSlope}
	j.checkRing(t, slopes(few(), few()), normal)
	j.checkRing(t, slopes(odd()[5:], odd()[4:]), normal)
}

// Polynomials: their numbers, that of x^0 first, reckoned with fractions alone.
type polynomial []api.Rat

// plus is the sum of two polynomials.
func (p polynomial) plus(q polynomial) polynomial {
	out := make(polynomial, max(len(p), len(q)))
	copy(out, p)
	for i, c := range q {
		out[i] = frac.Add(out[i], c)
	}
	return out
}

// times is the product of two polynomials.
func (p polynomial) times(q polynomial) polynomial {
	out := make(polynomial, len(p)+len(q))
	for i, c := range p {
		for k, d := range q {
			out[i+k] = frac.Add(out[i+k], frac.Mul(c, d))
		}
	}
	return out
}

// at is what a polynomial is at x.
func (p polynomial) at(x api.Rat) api.Rat {
	sum, power := read("0"), read("1")
	for _, c := range p {
		sum = frac.Add(sum, frac.Mul(c, power))
		power = frac.Mul(power, x)
	}
	return sum
}

// slope is the polynomial that tells how fast another one grows.
func (p polynomial) slope() polynomial {
	var out polynomial
	for i := 1; i < len(p); i++ {
		out = append(out, frac.Mul(samples.Ratio(i, 1), p[i]))
	}
	return out
}

// checkGrowth holds what was worked out in Slopes at x against a polynomial.
func checkGrowth(t *testing.T, got ring.Slope, p polynomial, x api.Rat) {
	t.Helper()
	checkSlope(t, "a polynomial", got, ring.Slope{At: p.at(x), By: p.slope().at(x)})
}

// steady is a number that does not grow, and growing is x.
func steady(c api.Rat) ring.Slope  { return ring.Slope{At: c} }
func growing(x api.Rat) ring.Slope { return ring.Slope{At: x, By: read("1")} }

// TestGrowth: polynomials by their numbers, worked out as a sum of products, and
// from the highest power down.
func TestGrowth(t *testing.T) {
	r := ring.Slopes{}
	for _, p := range []polynomial{nil, readAll("5"), readAll("0", "1"), readAll("1/2", "-2/3"), readAll("1", "0", "1"), readAll("-1", "3", "-3", "1"), readAll("0", "0", "0", "0", "1/7"), odd()} {
		for _, x := range append(odd(), readAll("2", "-1/3", "7/5")...) {
			var parts []ring.Slope
			down := r.Zero()
			for i, c := range p {
				parts = append(parts, r.Mul(steady(c), power[ring.Slope](t, r, growing(x), i)))
				down = r.Add(r.Mul(down, growing(x)), steady(p[len(p)-1-i]))
			}
			checkGrowth(t, ring.Sum[ring.Slope](r, parts...), p, x)
			checkGrowth(t, down, p, x)
		}
	}
}

// drawn is a polynomial made of sums, products and powers, worked out in Slopes
// at x and by its numbers.
func drawn(t *testing.T, source *rand.Rand, x api.Rat, steps int) (ring.Slope, polynomial) {
	t.Helper()
	r := ring.Slopes{}
	if steps == 0 {
		if source.Intn(2) == 0 {
			return growing(x), readAll("0", "1")
		}
		c := samples.Ratio(source.Intn(9)-4, source.Intn(4))
		return steady(c), polynomial{c}
	}
	left := source.Intn(steps)
	a, p := drawn(t, source, x, left)
	b, q := drawn(t, source, x, steps-1-left)
	switch source.Intn(5) {
	case 0, 1:
		return r.Add(a, b), p.plus(q)
	case 2, 3:
		return r.Mul(a, b), p.times(q)
	}
	return power[ring.Slope](t, r, a, 2), p.times(p)
}

func TestDrawnGrowth(t *testing.T) {
	source := rand.New(rand.NewSource(12))
	grow := 0
	for range 600 {
		x := samples.Ratio(source.Intn(11)-5, source.Intn(5))
		got, p := drawn(t, source, x, 1+source.Intn(6))
		checkGrowth(t, got, p, x)
		if len(got.By.Num.Mag) > 0 {
			grow++
		}
	}
	if grow < 200 {
		t.Errorf("only %d grow", grow)
	}
}
