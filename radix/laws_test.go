package radix_test

import (
	"math/rand"
	"slices"
	"testing"

	"credence/api"
	"credence/radix"
)

// 10.5: what follows.

// drawn are bases without any order, the same at each run, of at most MaxCount
// digits.
func drawn(source *rand.Rand) []int {
	var sizes []int
	left := api.MaxCount
	for left > 0 && source.Intn(8) > 0 {
		size := 1 + source.Intn(min(left, 1<<source.Intn(31)))
		sizes = append(sizes, size)
		left /= size
	}
	source.Shuffle(len(sizes), func(i, j int) { sizes[i], sizes[j] = sizes[j], sizes[i] })
	return sizes
}

// drawnDigits are digits for some bases.
func drawnDigits(source *rand.Rand, sizes []int) []int {
	digits := make([]int, len(sizes))
	for i, size := range sizes {
		digits[i] = source.Intn(size)
	}
	return digits
}

// checkThereAndBack: At of Digits is the place, Digits of At are the digits.
func checkThereAndBack(t *testing.T, sizes []int, at int, digits []int) {
	t.Helper()
	of, code := radix.Digits(sizes, at)
	if code != api.OK {
		t.Fatalf("Digits(%v, %d): %v", sizes, at, code)
	}
	checkAt(t, sizes, of, at, api.OK)
	place, code := radix.At(sizes, digits)
	if code != api.OK {
		t.Fatalf("At(%v; %v): %v", sizes, digits, code)
	}
	checkDigits(t, sizes, place, digits, api.OK)
}

func TestThereAndBack(t *testing.T) {
	source := rand.New(rand.NewSource(105))
	long := 0
	for range 3000 {
		sizes := drawn(source)
		count, code := radix.Count(sizes)
		if code != api.OK {
			t.Fatalf("Count(%v): %v", sizes, code)
		}
		long = max(long, len(sizes))
		for _, at := range []int{0, count - 1, count / 2, source.Intn(count)} {
			checkThereAndBack(t, sizes, at, drawnDigits(source, sizes))
		}
	}
	if long < 8 {
		t.Errorf("%d bases at most", long)
	}
}

// TestPlacesRise: digits that stand ahead have the lower place.
func TestPlacesRise(t *testing.T) {
	source := rand.New(rand.NewSource(205))
	for range 3000 {
		sizes := drawn(source)
		a, b := drawnDigits(source, sizes), drawnDigits(source, sizes)
		copy(b, a[:source.Intn(len(a)+1)])
		x, _ := radix.At(sizes, a)
		y, _ := radix.At(sizes, b)
		if slices.Compare(a, b) < 0 != (x < y) || slices.Equal(a, b) != (x == y) {
			t.Fatalf("%v: %v is at %d, %v at %d", sizes, a, x, b, y)
		}
	}
}

// checkBehind: the place of digits behind others is that of the first ones
// times how many of the second ones there are, and that of the second ones.
func checkBehind(t *testing.T, sizes, digits []int) {
	t.Helper()
	place, code := radix.At(sizes, digits)
	for cut := range len(sizes) + 1 {
		ahead, e := radix.At(sizes[:cut], digits[:cut])
		behind, f := radix.At(sizes[cut:], digits[cut:])
		count, g := radix.Count(sizes[cut:])
		if place != ahead*count+behind || code != api.OK || e != api.OK || f != api.OK || g != api.OK {
			t.Fatalf("At(%v; %v) is %d, %v; cut at %d: %d, %v and %d, %v of %d, %v", sizes, digits, place, code, cut, ahead, e, behind, f, count, g)
		}
	}
}

func TestBehind(t *testing.T) {
	source := rand.New(rand.NewSource(305))
	for range 3000 {
		sizes := drawn(source)
		checkBehind(t, sizes, drawnDigits(source, sizes))
	}
	for sizes := range small() {
		for _, digits := range radix.All(sizes) {
			checkBehind(t, sizes, digits)
		}
	}
}

// TestAllByAt: what All goes over is what At and Digits tell.
func TestAllByAt(t *testing.T) {
	for sizes := range small() {
		for at, digits := range radix.All(sizes) {
			checkAt(t, sizes, digits, at, api.OK)
			checkDigits(t, sizes, at, digits, api.OK)
		}
	}
}
