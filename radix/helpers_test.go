package radix_test

import (
	"iter"
	"math"
	"slices"
	"testing"

	"credence/api"
	"credence/nat"
	"credence/radix"
	"credence/samples"
)

// wide, half and short are numbers in types of another name.
type (
	wide  int
	half  int32
	short uint16
)

// list and lists are short names for what samples makes.
var (
	list  = samples.List
	lists = samples.ListsOf[int]
)

// as are numbers as those of another type, ok if each is one of these.
func as[T radix.Whole](numbers []int) ([]T, bool) {
	out := make([]T, len(numbers))
	for i, n := range numbers {
		out[i] = T(n)
		if int(out[i]) != n {
			return nil, false
		}
	}
	return out, true
}

// ints are numbers of any type as ints.
func ints[T radix.Whole](numbers []T) []int {
	out := make([]int, len(numbers))
	for i, n := range numbers {
		out[i] = int(n)
	}
	return out
}

// checkCount holds Count against its row, in each type that the bases are of.
func checkCount(t *testing.T, sizes []int, want int, code api.Errno) {
	t.Helper()
	countAs[int](t, sizes, want, code)
	countAs[int32](t, sizes, want, code)
	countAs[uint16](t, sizes, want, code)
	countAs[wide](t, sizes, want, code)
	countAs[half](t, sizes, want, code)
	countAs[short](t, sizes, want, code)
}

func countAs[T radix.Whole](t *testing.T, sizes []int, want int, code api.Errno) {
	t.Helper()
	in, ok := as[T](sizes)
	if !ok {
		return
	}
	if got, e := radix.Count(in); got != want || e != code {
		t.Fatalf("Count(%T %v): %d, %v, want %d, %v", in, in, got, e, want, code)
	}
}

// checkAt holds At against its row, in each type that the numbers are of.
func checkAt(t *testing.T, sizes, digits []int, want int, code api.Errno) {
	t.Helper()
	atAs[int](t, sizes, digits, want, code)
	atAs[int32](t, sizes, digits, want, code)
	atAs[uint16](t, sizes, digits, want, code)
	atAs[wide](t, sizes, digits, want, code)
	atAs[half](t, sizes, digits, want, code)
	atAs[short](t, sizes, digits, want, code)
}

func atAs[T radix.Whole](t *testing.T, sizes, digits []int, want int, code api.Errno) {
	t.Helper()
	in, ok := as[T](sizes)
	of, fits := as[T](digits)
	if !ok || !fits {
		return
	}
	if got, e := radix.At(in, of); got != want || e != code {
		t.Fatalf("At(%T %v; %v): %d, %v, want %d, %v", in, in, of, got, e, want, code)
	}
}

// checkDigits holds Digits against its row, in each type that the bases are of.
func checkDigits(t *testing.T, sizes []int, at int, want []int, code api.Errno) {
	t.Helper()
	digitsAs[int](t, sizes, at, want, code)
	digitsAs[int32](t, sizes, at, want, code)
	digitsAs[uint16](t, sizes, at, want, code)
	digitsAs[wide](t, sizes, at, want, code)
	digitsAs[half](t, sizes, at, want, code)
	digitsAs[short](t, sizes, at, want, code)
}

func digitsAs[T radix.Whole](t *testing.T, sizes []int, at int, want []int, code api.Errno) {
	t.Helper()
	in, ok := as[T](sizes)
	if !ok {
		return
	}
	if got, e := radix.Digits(in, at); !slices.Equal(ints(got), want) || e != code {
		t.Fatalf("Digits(%T %v, %d): %v, %v, want %v, %v", in, in, at, got, e, want, code)
	}
}

// checkAll holds All against the digits that it should go over, in each type
// that the bases are of.
func checkAll(t *testing.T, sizes []int, want [][]int) {
	t.Helper()
	allAs[int](t, sizes, want)
	allAs[int32](t, sizes, want)
	allAs[uint16](t, sizes, want)
	allAs[wide](t, sizes, want)
	allAs[half](t, sizes, want)
	allAs[short](t, sizes, want)
}

func allAs[T radix.Whole](t *testing.T, sizes []int, want [][]int) {
	t.Helper()
	in, ok := as[T](sizes)
	if !ok {
		return
	}
	checkGone(t, radix.All(in), want)
}

// checkGone holds what is gone over against the digits that it should be, each
// with its place.
func checkGone[T radix.Whole](t *testing.T, all iter.Seq2[int, []T], want [][]int) {
	t.Helper()
	count := 0
	for at, digits := range all {
		if count >= len(want) || at != count || !slices.Equal(ints(digits), want[count]) {
			t.Fatalf("%T: %d, %v behind %d others of %v", digits, at, digits, count, want)
		}
		count++
	}
	if count != len(want) {
		t.Fatalf("%d are gone over, of %v", count, want)
	}
}

// inOrder are all digits in order: each first one, with all that may follow.
func inOrder(sizes []int) [][]int {
	if len(sizes) == 0 {
		return [][]int{nil}
	}
	rest := inOrder(sizes[1:])
	var out [][]int
	for first := range sizes[0] {
		for _, more := range rest {
			out = append(out, append([]int{first}, more...))
		}
	}
	return out
}

// small are bases of which few lists have many digits.
func small() iter.Seq[[]int] { return lists([]int{0, 1, 2, 3, 4}, 4) }

// edges are numbers at which something begins or ends, of any type.
func edges() []int {
	return []int{
		math.MinInt, math.MinInt + 1, math.MinInt32, -1, 0, 1, 2, 3, 46340, 46341, 65535, 65536,
		1 << 30, api.MaxCount - 1, api.MaxCount, 1 << 31, 1 << 32, 1 << 33, 1 << 62, math.MaxInt - 1, math.MaxInt,
	}
}

// judged is what Count should tell, by numbers that have no ends.
func judged(sizes []int) (int, api.Errno) {
	product := nat.Of(1)
	for _, size := range sizes {
		if size < 0 {
			return 0, api.ErrRange
		}
		product = nat.Mul(product, nat.Of(uint64(size)))
	}
	count, ok := nat.Uint(product)
	if !ok || count > api.MaxCount {
		return 0, api.ErrMany
	}
	return int(count), api.OK
}
