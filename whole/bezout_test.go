package whole_test

import (
	"testing"

	"credence/api"
	"credence/nat"
	"credence/samples"
	"credence/whole"
)

// 2.4: Bezout.

// checkBezout holds an answer against what it should be.
func checkBezout(t *testing.T, a, b, g, x, y api.Int) {
	t.Helper()
	gotG, gotX, gotY := whole.Bezout(a, b)
	check(t, "g", api.Int{Mag: gotG}, g)
	check(t, "x", gotX, x)
	check(t, "y", gotY, y)
}

func TestBezout(t *testing.T) {
	for _, c := range [][5]int{
		{240, 46, 2, -9, 47},
		{-240, 46, 2, 9, 47},
		{240, -46, 2, -9, -47},
		{-240, -46, 2, 9, -47},
		{46, 240, 2, 47, -9},
		{0, 0, 0, 1, 0},
		{0, 5, 5, 0, 1},
		{0, -5, 5, 0, -1},
		{5, 0, 5, 1, 0},
		{-5, 0, 5, -1, 0},
		{6, 6, 6, 0, 1},
		{-6, -6, 6, 0, -1},
		{6, -6, 6, 0, -1},
		{1, 1, 1, 0, 1},
		{1, 7, 1, 1, 0},
		{7, 1, 1, 0, 1},
		{2, 4, 2, 1, 0},
		{4, 2, 2, 0, 1},
		{3, 5, 1, 2, -1},
	} {
		checkBezout(t, small(c[0]), small(c[1]), small(c[2]), small(c[3]), small(c[4]))
	}
}

// TestBezoutNotNormal: a negative nought is no number below 0, and noughts
// ahead say nothing.
func TestBezoutNotNormal(t *testing.T) {
	for _, z := range zeros() {
		for _, w := range zeros() {
			checkBezout(t, z, w, plus(), plus(1), plus())
		}
		checkBezout(t, z, minus(5, 0), plus(5), plus(), minus(1))
		checkBezout(t, minus(5, 0), z, plus(5), minus(1), plus())
	}
	checkBezout(t, minus(240, 0), plus(46, 0, 0), plus(2), plus(9), plus(47))
}

// smallRows are g, x and y of two ints, by the rows as the chapter lays them
// out: all of them are kept, and the last that does not begin with 0 is taken.
func smallRows(a, b int) [3]int {
	rows := [][3]int{{max(a, -a), 1, 0}, {max(b, -b), 0, 1}}
	for rows[len(rows)-1][0] != 0 {
		p, l := rows[len(rows)-2], rows[len(rows)-1]
		q := p[0] / l[0]
		rows = append(rows, [3]int{p[0] - q*l[0], p[1] - q*l[1], p[2] - q*l[2]})
	}
	found := rows[0]
	for _, r := range rows {
		if r[0] != 0 {
			found = r
		}
	}
	if a < 0 {
		found[1] = -found[1]
	}
	if b < 0 {
		found[2] = -found[2]
	}
	return found
}

func TestBezoutIsEuclids(t *testing.T) {
	for a := -60; a <= 60; a++ {
		for b := -60; b <= 60; b++ {
			want := smallRows(a, b)
			checkBezout(t, small(a), small(b), small(want[0]), small(want[1]), small(want[2]))
		}
	}
}

// TestBezoutOfNeighbours: of neighbours in Fibonacci's row Euclid's rows are
// most, and hold neighbours too, their signs taking turns.
func TestBezoutOfNeighbours(t *testing.T) {
	fibs := []api.Int{plus(), plus(1), plus(1)}
	for n := 3; n < 400; n++ {
		fibs = append(fibs, whole.Add(fibs[n-1], fibs[n-2]))
		x, y := fibs[n-3], fibs[n-2]
		if n%2 == 0 {
			y = whole.Neg(y)
		} else {
			x = whole.Neg(x)
		}
		checkBezout(t, fibs[n], fibs[n-1], plus(1), x, y)
		checkBezout(t, fibs[n-1], fibs[n], plus(1), y, x)
		checkBezout(t, whole.Neg(fibs[n]), fibs[n-1], plus(1), whole.Neg(x), y)
	}
}

// makes checks that a x + b y is g, the greatest common divisor, and that x and
// y are those of Euclid's steps. Where neither number divides the other, these
// are the only ones of which twice x g is not above b in size, and twice y g not
// above a.
func makes(t *testing.T, a, b api.Int) {
	t.Helper()
	size, x, y := whole.Bezout(a, b)
	g := api.Int{Mag: size}
	check(t, "g", g, api.Int{Mag: nat.Gcd(a.Mag, b.Mag)})
	check(t, "x is normal", x, whole.Norm(x))
	check(t, "y is normal", y, whole.Norm(y))
	check(t, "a x + b y", whole.Add(whole.Mul(a, x), whole.Mul(b, y)), g)
	if nat.Cmp(size, a.Mag) == 0 || nat.Cmp(size, b.Mag) == 0 {
		return
	}
	twice := whole.Add(g, g)
	if nat.Cmp(whole.Mul(twice, x).Mag, b.Mag) > 0 || nat.Cmp(whole.Mul(twice, y).Mag, a.Mag) > 0 {
		t.Fatalf("Bezout(%v, %v): %v, %v are not Euclid's", a, b, x, y)
	}
}

func TestBezoutHolds(t *testing.T) {
	for _, a := range many() {
		for _, b := range many() {
			makes(t, a, b)
		}
	}
	long := samples.Ints(samples.Nats(5, 60))
	for _, a := range long {
		for _, b := range long {
			makes(t, a, b)
			makes(t, whole.Mul(a, long[0]), whole.Mul(b, long[0]))
		}
	}
}
