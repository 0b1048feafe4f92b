package model_test

import (
	"math/rand"
	"slices"
	"testing"

	"credence/api"
	"credence/model"
	"credence/samples"
)

// 19.8: Same.

// checkSame holds Same against what it should say, either way round.
func checkSame(t *testing.T, what string, a, b api.Net, want bool) {
	t.Helper()
	if model.Same(a, b) != want || model.Same(b, a) != want {
		t.Errorf("Same, %s: %v and %v, want %v", what, model.Same(a, b), model.Same(b, a), want)
	}
}

// TestSame: each thing that may differ.
func TestSame(t *testing.T) {
	checkSame(t, "itself", plainNet(), plainNet(), true)
	checkSame(t, "what is loaded", load(t, samples.RainText), rain(), true)
	for what, do := range map[string]func(n *api.Net){
		"the name":              func(n *api.Net) { n.Name = "n" },
		"a variable's name":     func(n *api.Net) { n.Names[2] = "C" },
		"a name more":           func(n *api.Net) { n.Names = append(n.Names, "") },
		"a name less":           func(n *api.Net) { n.Names = n.Names[:2] },
		"names in other places": func(n *api.Net) { slices.Reverse(n.Names) },
		"a value's name":        func(n *api.Net) { n.Values[0][1] = "Q" },
		"a value more":          func(n *api.Net) { n.Values[1] = append(n.Values[1], "z") },
		"values of one more":    func(n *api.Net) { n.Values = append(n.Values, nil) },
		"values the other way":  func(n *api.Net) { slices.Reverse(n.Values[1]) },
		"a parent":              func(n *api.Net) { n.Parents[1][0] = 2 },
		"a parent less":         func(n *api.Net) { n.Parents[1] = nil },
		"parents turned":        func(n *api.Net) { slices.Reverse(n.Parents[2]) },
		"parents of one more":   func(n *api.Net) { n.Parents = append(n.Parents, nil) },
		"the first number":      func(n *api.Net) { n.Tables[0][0] = ratio(1, 3) },
		"the last number":       func(n *api.Net) { n.Tables[2][11] = ratio(-5, 6) },
		"a number less":         func(n *api.Net) { n.Tables[1] = n.Tables[1][:5] },
		"a 0 more":              func(n *api.Net) { n.Tables[1] = append(n.Tables[1], api.Rat{}) },
		"a table more":          func(n *api.Net) { n.Tables = append(n.Tables, nil) },
		"numbers turned":        func(n *api.Net) { slices.Reverse(n.Tables[1]) },
	} {
		n := plainNet()
		do(&n)
		checkSame(t, what, n, plainNet(), false)
		checkSame(t, what+", itself", n, n, true)
	}
}

// TestSameNumbers: numbers that say the same are the same, however they are
// written; lists nil or empty are.
func TestSameNumbers(t *testing.T) {
	of := func(l ...api.Rat) api.Net { return api.Net{Tables: [][]api.Rat{l}} }
	long := api.Rat{Num: api.Int{Mag: api.Nat{3, 0}}, Den: api.Nat{6, 0, 0}}
	checkSame(t, "1/2", of(long, ratio(2, 4)), of(ratio(1, 2), ratio(1, 2)), true)
	checkSame(t, "0", of(api.Rat{}, api.Rat{Num: api.Int{Neg: true}}), of(ratio(0, 7), ratio(0, 1)), true)
	checkSame(t, "over 0", of(api.Rat{Num: api.Int{Mag: api.Nat{5}}}), of(ratio(5, 1)), true)
	checkSame(t, "1/2 and -1/2", of(long), of(ratio(-1, 2)), false)
	checkSame(t, "none", api.Net{}, api.Net{Names: []string{}, Values: [][]string{}, Parents: [][]int{}, Tables: [][]api.Rat{}}, true)
	checkSame(t, "lists of none", api.Net{Values: [][]string{nil}, Parents: [][]int{{}}, Tables: [][]api.Rat{nil}}, api.Net{Values: [][]string{{}}, Parents: [][]int{nil}, Tables: [][]api.Rat{{}}}, true)
	checkSame(t, "one list of none", api.Net{Parents: [][]int{nil}}, api.Net{}, false)
}

// TestSameSpoilt: networks that are spoilt are the same where they are so number
// by number.
func TestSameSpoilt(t *testing.T) {
	w := writer{rand.New(rand.NewSource(1910))}
	times := 0
	for i := range 5000 {
		n := w.net(1 + i%3)
		other := samples.RoomyNet(n)
		w.spoilNet(&other)
		want := identical(n, other)
		if want {
			times++
		}
		checkSame(t, "spoilt", n, other, want)
	}
	if times < 100 {
		t.Errorf("the same %d times alone", times)
	}
}
