package samples_test

import (
	"slices"
	"strings"
	"testing"

	"credence/samples"
)

// TestAlone: a call that keeps to the rules is let through, each that breaks
// one is found out.
func TestAlone(t *testing.T) {
	kept := []int{7}
	times := 0
	for _, c := range []struct {
		want string
		call samples.Call[int]
	}{
		{"", func(in [][]int) [][]int { return [][]int{slices.Concat(in[0], in[1]), {1}} }},
		{"", func(in [][]int) [][]int { return [][]int{nil, {}} }},
		{"was changed", func(in [][]int) [][]int { in[1][0]++; return nil }},
		{"was changed", func(in [][]int) [][]int { return [][]int{append(in[0], 5)} }},
		{"an answer shares", func(in [][]int) [][]int { return [][]int{in[0]} }},
		{"an answer shares", func(in [][]int) [][]int { return [][]int{in[1][len(in[1]):]} }},
		{"two answers", func(in [][]int) [][]int { a := []int{1, 2}; return [][]int{a, a[1:]} }},
		{"second answer", func(in [][]int) [][]int { return [][]int{kept} }},
		{"second answer", func(in [][]int) [][]int { times++; return [][]int{{times}} }},
	} {
		got := samples.Alone(c.call, [][]int{{1, 2, 3}, {4}}, samples.Marks[int]{Spare: -1, Ink: -2})
		if (got == "") != (c.want == "") || !strings.Contains(got, c.want) {
			t.Errorf("Alone: %q, want %q", got, c.want)
		}
	}
}
