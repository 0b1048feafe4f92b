package radix_test

import (
	"math"
	"slices"
	"testing"

	"credence/api"
)

// 10.3: Digits.

// TestExamplesOfDigits: the chapter's rows.
func TestExamplesOfDigits(t *testing.T) {
	for _, c := range []struct {
		sizes string
		at    int
		want  string
		code  api.Errno
	}{
		{"2 3", 5, "1 2", api.OK}, {"2 3", 6, "", api.ErrRange}, {"", 0, "", api.OK}, {"0", 0, "", api.ErrRange},
	} {
		checkDigits(t, list(c.sizes), c.at, list(c.want), c.code)
	}
}

func TestDigitsOfPlaces(t *testing.T) {
	for _, c := range []struct {
		sizes string
		at    int
		want  string
	}{
		{"2 3", 0, "0 0"}, {"2 3", 1, "0 1"}, {"2 3", 3, "1 0"}, {"10 10 10", 407, "4 0 7"}, {"1", 0, "0"}, {"1 1", 0, "0 0"}, {"5", 4, "4"}, {"2 3 5", 29, "1 2 4"}, {"2 3 5", 15, "1 0 0"}, {"5 3 2", 24, "4 0 0"},
		{"2147483647", 2147483646, "2147483646"}, {"65535 32768", 2147450879, "65534 32767"}, {"2 9 7 11 31 151 331", 2147483645, "1 8 6 10 30 150 330"},
		{"46340 46341", 2147441939, "46339 46340"}, {"1 2147483647 1", 2147483646, "0 2147483646 0"}, {"1 65535 1 1", 65534, "0 65534 0 0"}, {"2 65535", 65535, "1 0"},
	} {
		checkDigits(t, list(c.sizes), c.at, list(c.want), api.OK)
	}
}

// outside are places that no digits of so many have.
func outside(count int) []int {
	return []int{math.MinInt, math.MinInt32, -2, -1, count, count + 1, 2*count + 1, 1 << 31, 1 << 32, 1 << 62, math.MaxInt}
}

// TestNoPlaces: at is below 0, or not below how many there are.
func TestNoPlaces(t *testing.T) {
	for sizes, count := range map[string]int{
		"": 1, "0": 0, "1": 1, "2 3": 6, "3 0": 0, "0 3": 0, "1 1 1": 1, "9223372036854775807 0 9223372036854775807": 0, "65535 65535 0": 0, "65535": 65535, "2147483647": 2147483647, "46340 46341": 2147441940,
	} {
		for _, at := range outside(count) {
			checkDigits(t, list(sizes), at, nil, api.ErrRange)
		}
	}
}

// TestOrderOfErrorsOfDigits: Count's, ErrRange.
func TestOrderOfErrorsOfDigits(t *testing.T) {
	for _, at := range append(outside(1), 0, 1, 5) {
		checkDigits(t, list("2 -1"), at, nil, api.ErrRange)
		checkDigits(t, list("65535 65535 -1"), at, nil, api.ErrRange)
		checkDigits(t, list("65535 65535"), at, nil, api.ErrMany)
		checkDigits(t, list("2147483648"), at, nil, api.ErrMany)
		checkDigits(t, list("4294967296 4294967296"), at, nil, api.ErrMany)
	}
}

// TestSmallDigits: the digits of a place are those ahead of which so many stand.
func TestSmallDigits(t *testing.T) {
	for sizes := range small() {
		all := inOrder(sizes)
		for at, want := range all {
			checkDigits(t, sizes, at, want, api.OK)
		}
		for _, at := range outside(len(all)) {
			checkDigits(t, sizes, at, nil, api.ErrRange)
		}
	}
}

// TestLongDigits: there is no end to how many digits there are.
func TestLongDigits(t *testing.T) {
	ones := slices.Repeat([]int{1}, 100000)
	noughts := make([]int, len(ones))
	checkDigits(t, ones, 0, noughts, api.OK)
	checkDigits(t, ones, 1, nil, api.ErrRange)
	checkDigits(t, append(ones, 60000), 59999, append(noughts, 59999), api.OK)
	checkDigits(t, append([]int{60000}, ones...), 59999, append([]int{59999}, noughts...), api.OK)
	checkDigits(t, slices.Repeat([]int{2}, 30), 1<<30-1, slices.Repeat([]int{1}, 30), api.OK)
}
