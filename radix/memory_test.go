package radix_test

import (
	"testing"

	"credence/api"
	"credence/radix"
	"credence/samples"
)

// R3, R4, R5: what is handed in is not changed, what is answered is new memory.

// aloneAs looks at the memory of all calls, of bases in one type. The marks
// are numbers that would show, as bases and as digits.
func aloneAs[T radix.Whole](t *testing.T, text string) {
	t.Helper()
	sizes, ok := as[T](list(text))
	if !ok {
		return
	}
	marks := samples.Marks[T]{Spare: 77, Ink: 99}
	count, _ := radix.Count(sizes)
	for at := -1; at <= count && at < 20; at++ {
		digits := func(in [][]T) [][]T {
			out, _ := radix.Digits(in[0], at)
			return [][]T{out}
		}
		if wrong := samples.Alone(digits, [][]T{sizes}, marks); wrong != "" {
			t.Fatalf("Digits(%T %v, %d): %s", sizes, sizes, at, wrong)
		}
	}
	if wrong := samples.Alone(gone[T], [][]T{sizes}, marks); wrong != "" {
		t.Fatalf("All(%T %v): %s", sizes, sizes, wrong)
	}
	number := func(in [][]T) [][]T {
		count, _ := radix.Count(in[0])
		place, _ := radix.At(in[0], in[1])
		return [][]T{{T(count), T(place)}}
	}
	for _, digits := range [][]T{nil, sizes, make([]T, len(sizes)), {1}} {
		if wrong := samples.Alone(number, [][]T{sizes, digits}, marks); wrong != "" {
			t.Fatalf("Count and At(%T %v; %v): %s", sizes, sizes, digits, wrong)
		}
	}
}

// gone are the first digits that All goes over.
func gone[T radix.Whole](in [][]T) [][]T {
	var out [][]T
	for at, digits := range radix.All(in[0]) {
		out = append(out, digits)
		if at == 20 {
			break
		}
	}
	return out
}

func TestMemory(t *testing.T) {
	for _, sizes := range []string{"", "0", "1", "3", "2 3", "3 0", "1 1 1", "2 2 2 2", "-1", "65535 65535", "65535", "2147483647", "2 5 1 3", "1 1 1 1 1 1 1 1 1"} {
		aloneAs[int](t, sizes)
		aloneAs[int32](t, sizes)
		aloneAs[uint16](t, sizes)
		aloneAs[wide](t, sizes)
		aloneAs[half](t, sizes)
		aloneAs[short](t, sizes)
	}
}

// TestNoneAndEmpty: a nil list is one without elements.
func TestNoneAndEmpty(t *testing.T) {
	for _, none := range [][]int{nil, {}} {
		if n, e := radix.Count(none); n != 1 || e != api.OK {
			t.Errorf("Count of none: %d, %v", n, e)
		}
		for _, digits := range [][]int{nil, {}} {
			if n, e := radix.At(none, digits); n != 0 || e != api.OK {
				t.Errorf("At of none and none: %d, %v", n, e)
			}
		}
		if d, e := radix.Digits(none, 0); len(d) != 0 || e != api.OK {
			t.Errorf("Digits of none: %v, %v", d, e)
		}
		checkGone(t, radix.All(none), [][]int{nil})
	}
}

// TestOneListTwice: bases and digits may share their memory.
func TestOneListTwice(t *testing.T) {
	room := list("2 3 1 2")
	if n, e := radix.At(room[:2], room[2:]); n != 5 || e != api.OK {
		t.Errorf("At of two halves: %d, %v", n, e)
	}
	if n, e := radix.At(room[1:3], room[2:]); n != 0 || e != api.ErrRange {
		t.Errorf("At of two lists with one number in both: %d, %v", n, e)
	}
	if n, e := radix.At(room, room); n != 0 || e != api.ErrRange {
		t.Errorf("At of one list twice: %d, %v", n, e)
	}
}
