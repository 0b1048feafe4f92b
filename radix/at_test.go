package radix_test

import (
	"math"
	"slices"
	"testing"

	"credence/api"
)

// 10.2: At.

// TestExamplesOfAt: the chapter's rows.
func TestExamplesOfAt(t *testing.T) {
	for _, c := range []struct {
		sizes, digits string
		want          int
		code          api.Errno
	}{
		{"2 3", "1 2", 5, api.OK}, {"2 3", "0 0", 0, api.OK}, {"", "", 0, api.OK},
		{"2 3", "1", 0, api.ErrShape}, {"2 3", "1 3", 0, api.ErrRange}, {"2 3", "-1 0", 0, api.ErrRange}, {"-1", "0 0", 0, api.ErrRange},
	} {
		checkAt(t, list(c.sizes), list(c.digits), c.want, c.code)
	}
}

func TestPlaces(t *testing.T) {
	for _, c := range []struct {
		sizes, digits string
		want          int
		code          api.Errno
	}{
		{"2 3", "0 1", 1, api.OK}, {"2 3", "1 0", 3, api.OK}, {"10 10 10", "4 0 7", 407, api.OK}, {"1 1", "0 0", 0, api.OK}, {"5", "4", 4, api.OK}, {"2 3 5", "1 2 4", 29, api.OK},
		{"5 3 2", "4 0 0", 24, api.OK}, {"2 3 5", "1 0 0", 15, api.OK},
		// As high as places go.
		{"2147483647", "2147483646", 2147483646, api.OK}, {"65535 32768", "65534 32767", 2147450879, api.OK}, {"2 9 7 11 31 151 331", "1 8 6 10 30 150 330", 2147483645, api.OK},
		{"46340 46341", "46339 46340", 2147441939, api.OK}, {"1 2147483647 1", "0 2147483646 0", 2147483646, api.OK},
		// Digits that are not below their bases.
		{"5", "5", 0, api.ErrRange}, {"2 3", "2 0", 0, api.ErrRange}, {"2 3", "0 3", 0, api.ErrRange}, {"1", "1", 0, api.ErrRange}, {"2 3", "2 -1", 0, api.ErrRange}, {"2147483647", "2147483647", 0, api.ErrRange},
		{"2 3", "0 9223372036854775807", 0, api.ErrRange}, {"2 3", "-9223372036854775808 0", 0, api.ErrRange}, {"2 3", "0 -1", 0, api.ErrRange}, {"2 3", "1 65535", 0, api.ErrRange}, {"2 3", "4294967296 0", 0, api.ErrRange},
		// Where there are none, none is below its base.
		{"0", "0", 0, api.ErrRange}, {"0", "-1", 0, api.ErrRange}, {"2 0", "1 0", 0, api.ErrRange}, {"0 2", "0 1", 0, api.ErrRange}, {"9223372036854775807 9223372036854775807 0", "7 7 0", 0, api.ErrRange},
	} {
		checkAt(t, list(c.sizes), list(c.digits), c.want, c.code)
	}
}

// TestOrderOfErrorsOfAt: Count's, ErrShape, ErrRange.
func TestOrderOfErrorsOfAt(t *testing.T) {
	for _, digits := range []string{"", "0", "-1", "0 0", "9 9", "0 -1", "0 0 0", "5 5 5 5"} {
		checkAt(t, list("2 -1"), list(digits), 0, api.ErrRange)
		checkAt(t, list("65535 65535 -1"), list(digits), 0, api.ErrRange)
		checkAt(t, list("65535 65535"), list(digits), 0, api.ErrMany)
		checkAt(t, list("2147483648"), list(digits), 0, api.ErrMany)
	}
	for _, c := range []struct{ sizes, digits string }{
		{"", "0"}, {"", "-1"}, {"1", ""}, {"0", ""}, {"0", "0 0"}, {"2 3", ""}, {"2 3", "9"}, {"2 3", "-1"}, {"2 3", "0 0 0"}, {"2 3", "9 9 9"}, {"2 3", "1 2 -1"}, {"65535 65535 0", "0 0"},
	} {
		checkAt(t, list(c.sizes), list(c.digits), 0, api.ErrShape)
	}
}

// TestSmallPlaces: the place is how many stand ahead, of all that there are;
// what is not among them has none.
func TestSmallPlaces(t *testing.T) {
	for sizes := range lists([]int{0, 1, 2, 3, 4}, 3) {
		all := inOrder(sizes)
		for digits := range lists([]int{-1, 0, 1, 2, 3, 4}, 4) {
			at, found := slices.BinarySearchFunc(all, digits, slices.Compare)
			switch {
			case len(digits) != len(sizes):
				checkAt(t, sizes, digits, 0, api.ErrShape)
			case !found:
				checkAt(t, sizes, digits, 0, api.ErrRange)
			default:
				checkAt(t, sizes, digits, at, api.OK)
			}
		}
	}
}

// TestAllEdgesOfAt: no bases and digits but have an answer.
func TestAllEdgesOfAt(t *testing.T) {
	for sizes := range lists(edges(), 2) {
		count, code := judged(sizes)
		for digits := range lists(append(edges(), 4, 65534), 2) {
			switch {
			case code != api.OK:
				checkAt(t, sizes, digits, 0, code)
			case len(sizes) != len(digits):
				checkAt(t, sizes, digits, 0, api.ErrShape)
			case !below(digits, sizes):
				checkAt(t, sizes, digits, 0, api.ErrRange)
			case len(sizes) == 2:
				checkAt(t, sizes, digits, count/sizes[0]*digits[0]+digits[1], api.OK)
			case len(sizes) == 1:
				checkAt(t, sizes, digits, digits[0], api.OK)
			}
		}
	}
}

// below is whether each digit is from 0 to below its base.
func below(digits, sizes []int) bool {
	for i := range digits {
		if digits[i] < 0 || digits[i] > sizes[i]-1 {
			return false
		}
	}
	return true
}

// TestLongPlaces: there is no end to how many digits there are.
func TestLongPlaces(t *testing.T) {
	ones := slices.Repeat([]int{1}, 100000)
	noughts := make([]int, len(ones))
	checkAt(t, ones, noughts, 0, api.OK)
	checkAt(t, append(ones, 60000), append(noughts, 59999), 59999, api.OK)
	checkAt(t, append([]int{60000}, ones...), append([]int{59999}, noughts...), 59999, api.OK)
	checkAt(t, append(ones, 60000), append(noughts, 60000), 0, api.ErrRange)
	checkAt(t, ones, noughts[1:], 0, api.ErrShape)
	checkAt(t, slices.Repeat([]int{2}, 30), slices.Repeat([]int{1}, 30), 1<<30-1, api.OK)
	checkAt(t, append(ones, math.MaxInt, math.MaxInt, 0), append(noughts, 5, 5, 0), 0, api.ErrRange)
}
