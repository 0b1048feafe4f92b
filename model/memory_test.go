package model_test

import (
	"math/rand"
	"slices"
	"testing"

	"credence/api"
	"credence/model"
	"credence/samples"
)

// R3, R4, R5: what is handed in is not changed and not kept, what is answered is
// new memory.

// checkElaborate looks at the memory of a file and of its network.
func checkElaborate(t *testing.T, f api.File) {
	t.Helper()
	in := samples.RoomyFile(f)
	var r samples.Rooms
	r.File(in)
	still := r.Watch()
	first, e := model.Elaborate(in)
	second, other := model.Elaborate(in)
	if e != other || !identical(first, second) {
		t.Fatalf("%v: first %v, %v, and then %v, %v", f, first, e, second, other)
	}
	if !still() {
		t.Fatalf("%v was changed", f)
	}
	r.Net(first)
	r.Net(second)
	if !r.Apart() {
		t.Fatalf("%v: its network shares memory", f)
	}
}

// checkCalls looks at the memory of a network and of all that is told of it.
func checkCalls(t *testing.T, n api.Net, values []int) {
	t.Helper()
	in, digits := samples.RoomyNet(n), samples.Roomy(values, 77)
	var r samples.Rooms
	r.Net(in)
	r.Ints(digits)
	still := r.Watch()
	for range 2 {
		model.Check(in)
		model.Same(in, in)
		chance, _ := model.Chance(in, digits)
		boxes, _ := model.Boxes(in)
		r.Ints(model.Sizes(in))
		r.Rat(chance)
		r.Boxes(boxes)
	}
	if !still() {
		t.Fatalf("%v was changed", n)
	}
	if !r.Apart() {
		t.Fatalf("%v: what is told shares memory", n)
	}
}

// TestMemory: of files and networks that may be, and of some that may not.
func TestMemory(t *testing.T) {
	w := writer{rand.New(rand.NewSource(1914))}
	for i := range 600 {
		n := w.net(i % 5)
		f := w.file(n)
		checkElaborate(t, f)
		checkCalls(t, n, make([]int, i%6))
		w.spoil(&f)
		checkElaborate(t, f)
		w.spoilNet(&n)
		checkCalls(t, n, make([]int, i%5))
	}
	checkElaborate(t, fileOf(t, samples.RainText))
	checkElaborate(t, fileOf(t, plainText))
	checkElaborate(t, api.File{})
	checkCalls(t, rain(), list("1 1"))
	checkCalls(t, api.Net{}, nil)
	// Normal numbers, of which each is one list twice.
	one := fractions("1")
	one[0].Num.Mag = one[0].Den
	checkCalls(t, netOf(hung("| 0"), list("1 1"), func(int) []api.Rat { return slices.Clone(one) }), list("0 0"))
}

// TestMemoryOfLoad: two networks of one text share nothing.
func TestMemoryOfLoad(t *testing.T) {
	var r samples.Rooms
	for range 2 {
		r.Net(load(t, samples.RainText))
		r.Net(load(t, `network n { } variable x { type discrete [2] { a, b }; } variable y { type discrete [2] { a, b }; } variable z { type discrete [1] { a }; }
			probability (z | y, x) { default 1; } probability (y | x) { default 1/2, 0.5; } probability (x) { default 0, 1; }`))
	}
	if !r.Apart() {
		t.Error("networks share memory")
	}
}

// TestOneListTwice: one list may stand in several places of what is handed in.
func TestOneListTwice(t *testing.T) {
	half := fractions("1/2 1/2")
	names := []string{"a", "b"}
	n := api.Net{Names: names, Values: [][]string{names, names}, Parents: make([][]int, 2), Tables: [][]api.Rat{half, half}}
	checkCheck(t, "one list", n, api.OK)
	checkChance(t, n, list("0 1"), ratio(1, 4))
	var r samples.Rooms
	r.Boxes(boxes(t, n))
	entries := []api.Entry{{Kind: api.EntryDefault, Numbers: [][]api.Term{terms("1/2"), terms("1/2")}}}
	f := api.File{Vars: []api.VarDecl{{Name: "a", Count: api.Nat{2}, Values: names}, {Name: "b", Count: api.Nat{2}, Values: names}}, Probs: []api.ProbDecl{{Name: "a", Entries: entries}, {Name: "b", Entries: entries}}}
	got, e := model.Elaborate(f)
	if e != api.OK || !identical(got, n) {
		t.Errorf("one list: %v, %v, want %v", got, e, n)
	}
	r.Net(got)
	if !r.Apart() {
		t.Error("one list that is handed in twice is answered twice")
	}
}
