package model_test

import (
	"math"
	"math/rand"
	"slices"
	"testing"

	"credence/api"
	"credence/frac"
	"credence/model"
	"credence/samples"
)

// 19.6: Sizes and Chance.

// checkChance holds an assignment's probability against what it should be.
func checkChance(t *testing.T, n api.Net, values []int, want api.Rat) {
	t.Helper()
	if got, e := model.Chance(n, values); e != api.OK || !samples.SameLimbs(got, want) {
		t.Fatalf("Chance(%.300v, %v): %v, %v, want %v", n, values, got, e, want)
	}
}

// checkNoChance holds Chance's error against what it should be.
func checkNoChance(t *testing.T, n api.Net, values []int, want api.Errno) {
	t.Helper()
	if got, e := model.Chance(n, values); e != want || got.Num.Mag != nil || got.Num.Neg || got.Den != nil {
		t.Fatalf("Chance(%.300v, %v): %v, %v, want %v", n, values, got, e, want)
	}
}

// TestExamplesOfChance: the chapter's rows.
func TestExamplesOfChance(t *testing.T) {
	n := load(t, samples.RainText)
	checkChance(t, n, list("1 1"), ratio(9, 50))
	checkChance(t, n, list("0 0"), ratio(18, 25))
	checkNoChance(t, n, list("1"), api.ErrShape)
	checkNoChance(t, n, list("1 2"), api.ErrRange)
	checkChance(t, load(t, "network n { }"), nil, ratio(1, 1))
	checkChance(t, api.Net{}, []int{}, ratio(1, 1))
}

// TestSizes: as many as Values has lists, whatever else there is.
func TestSizes(t *testing.T) {
	for _, c := range []struct {
		n    api.Net
		want string
	}{
		{rain(), "2 2"}, {api.Net{}, ""}, {api.Net{Names: []string{"a"}}, ""}, {api.Net{Values: [][]string{nil, {"a", "a", "a"}, {}, {""}}}, "0 3 0 1"}, {netOf([][]int{nil}, []int{70000}, even), "70000"},
	} {
		if got := model.Sizes(c.n); !slices.Equal(got, list(c.want)) {
			t.Errorf("Sizes(%.100v): %v, want %s", c.n, got, c.want)
		}
	}
}

// TestDrawnChances: each assignment's, of networks without any order.
func TestDrawnChances(t *testing.T) {
	w := writer{rand.New(rand.NewSource(197))}
	for i := range 600 {
		n := w.net(i % 6)
		for values := range samples.Assignments(n) {
			checkChance(t, n, values, frac.Add(samples.ChanceAt(n, values), api.Rat{}))
		}
	}
}

// TestWrongAssignments: too few or too many values come ahead of values that
// there are not; whatever is wrong with the network comes ahead of both.
func TestWrongAssignments(t *testing.T) {
	n := plainNet()
	for _, values := range []string{"", "0", "0 0", "0 0 0 0", "7", "-1 -1", "0 0 0 9"} {
		checkNoChance(t, n, list(values), api.ErrShape)
	}
	for _, values := range [][]int{list("-1 0 0"), list("2 0 0"), list("0 3 0"), list("0 -1 0"), list("0 0 2"), list("0 0 -1"), {math.MaxInt, 0, 0}, {0, math.MinInt, 0}, {0, 0, 1 << 32}} {
		checkNoChance(t, n, values, api.ErrRange)
	}
	checkNoChance(t, rain(), nil, api.ErrShape)
	checkNoChance(t, api.Net{}, list("0"), api.ErrShape)
	n.Tables[2][0] = ratio(1, 2)
	for _, values := range []string{"", "0 0 0", "0 0 9"} {
		checkNoChance(t, n, list(values), api.ErrRow)
	}
}

// TestLongProducts: of as many variables as may be, with long numbers.
func TestLongProducts(t *testing.T) {
	n := netOf(samples.RowOfParents(api.MaxVars), slices.Repeat([]int{2}, api.MaxVars), func(int) []api.Rat { return fractions("1/3 2/3") })
	power := "1"
	for range api.MaxVars {
		power = frac.Text(frac.Mul(fractions(power)[0], ratio(1, 3)))
	}
	checkChance(t, n, make([]int, api.MaxVars), fractions(power)[0])
	long := netOf(make([][]int, 100), slices.Repeat([]int{2}, 100), func(int) []api.Rat {
		x := fractions("1/7" + longNumber())[0]
		return []api.Rat{x, frac.Sub(ratio(1, 1), x)}
	})
	none := long
	none.Tables = slices.Clone(long.Tables)
	none.Tables[99] = fractions("1 0")
	values := slices.Repeat([]int{1}, 100)
	checkChance(t, none, values, fractions("0")[0])
	if x, e := model.Chance(long, values); e != api.OK || frac.Sign(x) != 1 || frac.Cmp(x, ratio(1, 1)) != -1 {
		t.Errorf("long numbers: %v", e)
	}
}

// longNumber are a few hundred digits.
func longNumber() string {
	digits := ""
	for i := range 100 {
		digits += frac.Text(ratio(100+i*7, 1))
	}
	return digits
}
