package samples

import (
	"iter"
	"slices"
	"strconv"
	"strings"
)

// List are numbers as the chapters' examples write them. A word that is none is
// a slip of the test, which panics.
func List(text string) []int {
	var out []int
	for word := range strings.FieldsSeq(text) {
		n, err := strconv.Atoi(word)
		if err != nil {
			panic(word + " is no number")
		}
		out = append(out, n)
	}
	return out
}

// Numbers are the numbers from 0 on, so many.
func Numbers(count int) []int {
	out := make([]int, count)
	for i := range out {
		out[i] = i
	}
	return out
}

// Choices are all choices among the numbers from 0 on, so many; each one rises.
func Choices(count int) [][]int {
	out := [][]int{nil}
	for number := range count {
		for _, list := range out {
			out = append(out, append(slices.Clip(list), number))
		}
	}
	return out
}

// Orders are all orders of some numbers.
func Orders(list []int) [][]int {
	if len(list) == 0 {
		return [][]int{nil}
	}
	var out [][]int
	for i, first := range list {
		for _, rest := range Orders(slices.Delete(slices.Clone(list), i, i+1)) {
			out = append(out, append([]int{first}, rest...))
		}
	}
	return out
}

// DrawnNumbers are some of the numbers from 0 on, without any order: about so
// many of a hundred; some of them come twice.
func DrawnNumbers(source Source, count, percent int) []int {
	var out []int
	for _, number := range source.Perm(count) {
		for range 2 {
			if source.Intn(200) < percent {
				out = append(out, number)
			}
		}
	}
	return out
}

// SameLists is whether two lists of lists have the same numbers.
func SameLists(a, b [][]int) bool { return slices.EqualFunc(a, b, slices.Equal) }

// ListsOf goes over all lists of up to most things, out of some.
func ListsOf[T any](some []T, most int) iter.Seq[[]T] {
	return func(yield func([]T) bool) {
		level := [][]T{nil}
		for range most + 1 {
			var next [][]T
			for _, list := range level {
				if !yield(list) {
					return
				}
				for _, x := range some {
					next = append(next, append(slices.Clip(list), x))
				}
			}
			level = next
		}
	}
}
