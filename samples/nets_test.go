package samples_test

import (
	"math/rand"
	"slices"
	"testing"

	"credence/api"
	"credence/frac"
	"credence/samples"
)

// TestFractions: what is written is what was read; a slip is told.
func TestFractions(t *testing.T) {
	for _, text := range []string{"", "1/2", "4/5 -1/5 0 7"} {
		if got := samples.WordingOfFractions(samples.Fractions(text)); got != text {
			t.Errorf("%q is read as %q", text, got)
		}
	}
	defer func() {
		if recover() == nil {
			t.Error("a slip was passed over")
		}
	}()
	samples.Fractions("1/2 0.5")
}

// TestRain: what the document says of it.
func TestRain(t *testing.T) {
	var got []api.Rat
	for values := range samples.Assignments(samples.Rain()) {
		got = append(got, samples.ChanceAt(samples.Rain(), values))
	}
	if text := samples.WordingOfFractions(got); text != "18/25 2/25 1/50 9/50" {
		t.Errorf("its chances are %s", text)
	}
}

// TestEntryAt: the last parent's value changes fastest.
func TestEntryAt(t *testing.T) {
	next := 0
	row := func(size int) []api.Rat {
		out := make([]api.Rat, size)
		for i := range out {
			out[i] = samples.Ratio(next, 1)
			next++
		}
		return out
	}
	n := samples.NetOf([][]int{{2, 1}, nil, {1}}, []int{2, 3, 2}, row)
	// The first table has 12 numbers, the second 3, the third 6.
	for _, c := range []struct {
		v      int
		values string
		want   string
	}{{0, "1 2 1", "11"}, {0, "0 1 1", "8"}, {1, "0 2 0", "14"}, {2, "0 2 1", "20"}, {2, "1 0 1", "16"}} {
		if got := frac.Text(samples.EntryAt(n, c.v, samples.List(c.values))); got != c.want {
			t.Errorf("of %d at %s: %s, want %s", c.v, c.values, got, c.want)
		}
	}
}

// TestDrawnNets: rows are 1 together, sizes are all that they may be, and many
// numbers are 0.
func TestDrawnNets(t *testing.T) {
	source := rand.New(rand.NewSource(19))
	sizes, zeros, all := map[int]int{}, 0, 0
	for range 200 {
		n := samples.DrawnNet(source, samples.DrawnParents(source, 4, 2, false), 3)
		for v, table := range n.Tables {
			size := len(n.Values[v])
			sizes[size]++
			for row := range slices.Chunk(table, size) {
				if frac.Text(frac.Sum(row...)) != "1" {
					t.Fatalf("the row %v", row)
				}
				for _, a := range row {
					all++
					zeros += 1 - frac.Sign(a)
				}
			}
		}
		sum := frac.Sum()
		for values := range samples.Assignments(n) {
			sum = frac.Add(sum, samples.ChanceAt(n, values))
		}
		if frac.Text(sum) != "1" {
			t.Fatalf("%v: all chances are %s", n, frac.Text(sum))
		}
	}
	if len(sizes) != 3 || sizes[0] != 0 || zeros*5 < all || zeros*2 > all {
		t.Errorf("sizes %v; %d of %d numbers are 0", sizes, zeros, all)
	}
	for range samples.Assignments(samples.Rain()) {
		break
	}
	if got := samples.WordingOfFractions(samples.Even(3)); got != "1/3 1/3 1/3" {
		t.Errorf("Even: %s", got)
	}
}
