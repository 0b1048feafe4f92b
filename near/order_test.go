package near_test

import (
	"cmp"
	"math"
	"testing"

	"credence/near"
)

// 5.4: Order.

func TestOrderOfTheTable(t *testing.T) {
	minus := math.Copysign(0, -1)
	for _, c := range []struct {
		a, b float64
		want int
	}{
		{math.NaN(), math.Inf(-1), -1},
		{math.NaN(), math.NaN(), 0},
		{minus, 0, -1},
		{1, 1, 0},
		{2, 1, 1},
	} {
		if got := near.Order(c.a, c.b); got != c.want {
			t.Errorf("Order(%v, %v): %d, want %d", c.a, c.b, got, c.want)
		}
	}
}

// rising are floats of 64 bits in groups: those of a group are equal, and less
// than those of the groups behind it.
func rising() [][]float64 {
	list := [][]float64{
		{math.NaN(), -math.NaN(), math.Float64frombits(0x7ff0000000000001), math.Float64frombits(0xffffffffffffffff)},
		{math.Inf(-1)}, {-math.MaxFloat64}, {-1.5}, {-1}, {-math.SmallestNonzeroFloat64}, {math.Copysign(0, -1)},
	}
	for _, f := range doubles() {
		list = append(list, []float64{f})
	}
	return append(list, []float64{math.Inf(1)})
}

// checkGroups holds Order against the groups of all pairs.
func checkGroups[T near.Float](t *testing.T, groups [][]T) {
	t.Helper()
	for i, left := range groups {
		for j, right := range groups {
			for _, a := range left {
				for _, b := range right {
					if got := near.Order(a, b); got != cmp.Compare(i, j) {
						t.Fatalf("Order(%v, %v): %d, want %d", a, b, got, cmp.Compare(i, j))
					}
				}
			}
		}
	}
}

// renamed are groups of floats of another type.
func renamed[U, T near.Float](groups [][]T) [][]U {
	list := make([][]U, len(groups))
	for i, group := range groups {
		for _, f := range group {
			list[i] = append(list[i], U(f))
		}
	}
	return list
}

func TestOrder(t *testing.T) {
	checkGroups(t, rising())
	checkGroups(t, renamed[double](rising()))
}

// TestOrderOfSingles: likewise of 32 bits.
func TestOrderOfSingles(t *testing.T) {
	groups := [][]float32{
		{float32(math.NaN()), math.Float32frombits(0xffc00000), math.Float32frombits(0x7f800001), math.Float32frombits(0xffffffff)},
		{float32(math.Inf(-1))}, {-math.MaxFloat32}, {-1}, {-math.SmallestNonzeroFloat32}, {float32(math.Copysign(0, -1))},
	}
	for _, f := range singles() {
		groups = append(groups, []float32{f})
	}
	groups = append(groups, []float32{float32(math.Inf(1))})
	checkGroups(t, groups)
	checkGroups(t, renamed[single](groups))
}
