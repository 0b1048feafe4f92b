package radix_test

import (
	"math"
	"slices"
	"testing"

	"credence/api"
)

// 10.1: Count.

// TestExamplesOfCount: the chapter's rows.
func TestExamplesOfCount(t *testing.T) {
	for _, c := range []struct {
		sizes string
		want  int
		code  api.Errno
	}{
		{"2 3", 6, api.OK}, {"", 1, api.OK}, {"2 0 -1", 0, api.ErrRange}, {"2 0 9", 0, api.OK},
		{"65536 32768", 0, api.ErrMany}, {"2147483647", 2147483647, api.OK}, {"2147483647 2", 0, api.ErrMany},
		{"2147483647 2147483647 2147483647 0", 0, api.OK},
	} {
		checkCount(t, list(c.sizes), c.want, c.code)
	}
}

func TestCounts(t *testing.T) {
	for _, c := range []struct {
		sizes string
		want  int
		code  api.Errno
	}{
		{"0", 0, api.OK}, {"1", 1, api.OK}, {"1 1 1", 1, api.OK}, {"7", 7, api.OK}, {"5 4 3 2", 120, api.OK}, {"0 0", 0, api.OK}, {"0 5", 0, api.OK}, {"5 0", 0, api.OK},
		{"65535 32768", 2147450880, api.OK}, {"65535 32769", 0, api.ErrMany}, {"65535 65535", 0, api.ErrMany}, {"46340 46341", 2147441940, api.OK}, {"46341 46341", 0, api.ErrMany},
		// One less than the most there may be, as a product.
		{"2 9 7 11 31 151 331", 2147483646, api.OK}, {"331 151 31 11 7 9 2", 2147483646, api.OK}, {"1 2147483646 1", 2147483646, api.OK},
		{"1 2147483647 1", 2147483647, api.OK}, {"2147483648", 0, api.ErrMany}, {"1 2147483648", 0, api.ErrMany}, {"2 1073741824", 0, api.ErrMany}, {"1073741824 2", 0, api.ErrMany},
	} {
		checkCount(t, list(c.sizes), c.want, c.code)
	}
}

// TestManyThatWrap: the product is what it is, also where one of 64 or of 32
// bits, or of the bases' own type, would be small again.
func TestManyThatWrap(t *testing.T) {
	for _, sizes := range []string{
		"4294967296 4294967296", "2147483648 8589934592", "3 6148914691236517206", "9223372036854775807 9223372036854775807", "9223372036854775807 3",
		"4294967297 4294967297", "6148914691236517206 3 2", "65536 65536", "65536 65537", "2147483647 2147483647", "32768 65535 2", "65535 65535 65535 65535",
		"9223372036854775807", "4294967296", "4294967297", "4611686018427387904 4", "4611686018427387904 4 1",
	} {
		checkCount(t, list(sizes), 0, api.ErrMany)
		for at := range len(list(sizes)) + 1 {
			checkCount(t, slices.Insert(list(sizes), at, 0), 0, api.OK)
			checkCount(t, slices.Insert(list(sizes), at, 1), 0, api.ErrMany)
			checkCount(t, slices.Insert(list(sizes), at, -1), 0, api.ErrRange)
		}
	}
}

// TestLongCounts: there is no end to how many bases there are.
func TestLongCounts(t *testing.T) {
	checkCount(t, slices.Repeat([]int{2}, 30), 1<<30, api.OK)
	checkCount(t, slices.Repeat([]int{2}, 31), 0, api.ErrMany)
	checkCount(t, slices.Repeat([]int{3}, 19), 1162261467, api.OK)
	checkCount(t, slices.Repeat([]int{3}, 20), 0, api.ErrMany)
	for _, count := range []int{32, 63, 64, 65, 128, 1000} {
		twos := slices.Repeat([]int{2}, count)
		checkCount(t, twos, 0, api.ErrMany)
		checkCount(t, append(twos, 0), 0, api.OK)
		checkCount(t, append([]int{0}, twos...), 0, api.OK)
		checkCount(t, append(twos, 0, -1), 0, api.ErrRange)
	}
	ones := slices.Repeat([]int{1}, 100000)
	checkCount(t, ones, 1, api.OK)
	checkCount(t, append(ones, api.MaxCount), api.MaxCount, api.OK)
	checkCount(t, append(ones, api.MaxCount+1), 0, api.ErrMany)
	checkCount(t, append(ones, math.MinInt), 0, api.ErrRange)
}

// TestAllEdgesOfCount: all short lists of numbers at which something begins or
// ends, against products without any end.
func TestAllEdgesOfCount(t *testing.T) {
	met := map[api.Errno]int{}
	for sizes := range lists(edges(), 3) {
		want, code := judged(sizes)
		met[code]++
		checkCount(t, sizes, want, code)
	}
	if met[api.OK] == 0 || met[api.ErrMany] == 0 || met[api.ErrRange] == 0 || len(met) != 3 {
		t.Errorf("errors met: %v", met)
	}
}

// TestSmallCounts: there are as many as there are.
func TestSmallCounts(t *testing.T) {
	for sizes := range small() {
		checkCount(t, sizes, len(inOrder(sizes)), api.OK)
	}
}
