package ring_test

import (
	"math"
	"testing"

	"credence/api"
	"credence/frac"
	"credence/ring"
)

// The rows of the chapter's examples.

func TestExamplesOfRats(t *testing.T) {
	var rats ring.Ring[api.Rat] = ring.Rats{}
	both := readAll("1/2", "1/3")
	checkRat(t, "Sum(Rats, 1/2, 1/3)", ring.Sum(rats, both...), read("5/6"))
	checkRat(t, "Product(Rats, 1/2, 1/3)", ring.Product(rats, both...), read("1/6"))
	checkRat(t, "Sum(Rats)", ring.Sum(rats), read("0"))
	checkRat(t, "Product(Rats)", ring.Product(rats), read("1"))
}

func TestExamplesOfMost(t *testing.T) {
	var most ring.Ring[api.Rat] = ring.Most{}
	both := readAll("1/2", "1/3")
	checkRat(t, "Sum(Most, 1/2, 1/3)", ring.Sum(most, both...), read("1/2"))
	checkRat(t, "Sum(Most, -1)", ring.Sum(most, read("-1")), read("0"))
	checkRat(t, "Most.Add(-1, -2)", most.Add(read("-1"), read("-2")), read("-1"))
	checkRat(t, "Product(Most, 1/2, 1/3)", ring.Product(most, both...), read("1/6"))
}

func TestExamplesOfPlainRings(t *testing.T) {
	if !ring.Sum[bool](ring.Bools{}, false, true) || ring.Product[bool](ring.Bools{}, true, false) {
		t.Error("Bools")
	}
	if n := (ring.Ints{}); n.Add(math.MaxInt, 1) != math.MinInt || n.Mul(1<<62, 4) != 0 {
		t.Error("Ints")
	}
	f := ring.Floats{}
	if !f.Same(math.NaN(), math.NaN()) || !f.Same(0, minus0) || ring.Sum[float64](f, 1e308, 1e308) != math.Inf(1) {
		t.Error("Floats")
	}
}

func TestExamplesOfSlopes(t *testing.T) {
	r := ring.Slopes{}
	checkSlope(t, "Slopes.Mul({3, 1}, {3, 1})", r.Mul(slope("3", "1"), slope("3", "1")), slope("9", "6"))
	got, e := ring.Power[ring.Slope](r, slope("2", "1"), 3)
	checkSlope(t, "Power(Slopes, {2, 1}, 3)", got, slope("8", "12"))
	if e != api.OK {
		t.Errorf("Power(Slopes, {2, 1}, 3): %v", e)
	}
}

func TestExamplesOfPower(t *testing.T) {
	for _, c := range []struct {
		a    string
		n    int
		want string
		code api.Errno
	}{{"2/3", 3, "8/27", api.OK}, {"0", 0, "1", api.OK}, {"2", -1, "0", api.ErrRange}, {"2", 1025, "0", api.ErrRange}} {
		if got, e := ring.Power[api.Rat](ring.Rats{}, read(c.a), c.n); e != c.code || frac.Text(got) != c.want {
			t.Errorf("Power(Rats, %s, %d): %s, %v", c.a, c.n, frac.Text(got), e)
		}
	}
}

func TestExamplesOfNoRing(t *testing.T) {
	if got, e := ring.Power(nil, 2, -1); e != api.ErrNil || got != 0 {
		t.Errorf("Power(nil, 2, -1): %d, %v", got, e)
	}
	if got := ring.Sum(nil, 1, 2); got != 0 {
		t.Errorf("Sum of no ring: %d", got)
	}
}
