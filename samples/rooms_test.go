package samples_test

import (
	"slices"
	"testing"

	"credence/api"
	"credence/nat"
	"credence/samples"
)

// wholeFile is a file that has all kinds of lists.
func wholeFile() api.File {
	return api.File{
		Name:       "n",
		Properties: []string{"p"},
		Vars:       []api.VarDecl{{Name: "x", Count: nat.Of(2), Values: []string{"u", "v"}, Properties: []string{"q"}}},
		Probs: []api.ProbDecl{{Name: "x", Parents: []string{"y"}, Properties: []string{"r"}, Entries: []api.Entry{
			{Kind: api.EntryRow, Given: []string{"a"}, Numbers: [][]api.Term{samples.Terms("1/2 n"), samples.Terms("3")}},
		}}},
	}
}

// roomyThings are things of lists with spare room, with a way to put them into
// rooms and some to change them.
func roomyThings() (put func(*samples.Rooms), changes []func()) {
	n, f := samples.RoomyNet(samples.Rain()), samples.RoomyFile(wholeFile())
	boxes := samples.Roomy([]api.Box[api.Rat]{{Scope: samples.Roomy([]int{0}, 7), Sizes: samples.Roomy([]int{2}, 7), Cells: samples.RoomyRats(samples.Fractions("1/2 1/3"))}}, api.Box[api.Rat]{})
	ints, texts, rat := samples.Roomy([]int{1}, 7), samples.Roomy([]string{"a"}, "b"), samples.RoomyRat(samples.Ratio(-3, 4))
	put = func(r *samples.Rooms) {
		r.Net(n)
		r.File(f)
		r.Boxes(boxes)
		r.Ints(ints)
		r.Texts(texts)
		r.Rat(rat)
	}
	entry := &f.Probs[0].Entries[0]
	return put, []func(){
		func() { n.Names[1] = "z" }, func() { n.Values[0] = nil }, func() { n.Values[0][1] = "z" }, func() { n.Parents[0] = []int{} }, func() { n.Parents[1][0]++ },
		func() { n.Tables[1] = n.Tables[0] }, func() { n.Tables[1][3] = n.Tables[1][0] }, func() { n.Tables[1][3].Den[0]++ }, func() { n.Tables[1][2].Num.Neg = true },
		func() { f.Properties[0] = "z" }, func() { f.Vars[0].Name = "z" }, func() { f.Vars[0].Count[0]++ }, func() { f.Vars[0].Count = nil }, func() { f.Vars[0].Values[0] = "" }, func() { f.Vars[0].Properties[0] = "" },
		func() { f.Probs[0].Name = "z" }, func() { f.Probs[0].Parents[0] = "z" }, func() { f.Probs[0].Parents = nil }, func() { f.Probs[0].Properties[0] = "z" },
		func() { entry.Kind++ }, func() { entry.Given[0] = "z" }, func() { entry.Given = nil }, func() { entry.Numbers = entry.Numbers[:1] }, func() { entry.Numbers[1] = nil }, func() { entry.Numbers[0][1].Kind++ }, func() { entry.Numbers[0][0].Number.Den[0]++ },
		func() { boxes[0].Scope = nil }, func() { boxes[0].Scope[0]++ }, func() { boxes[0].Sizes[0]++ }, func() { boxes[0].Cells[1].Den[0]++ },
		func() { ints[0]++ }, func() { texts[0] = "c" }, func() { rat.Den[0]++ },
		// And the spare room.
		func() { _ = append(n.Names, "z") }, func() { _ = append(n.Values, nil) }, func() { _ = append(n.Values[1], "z") }, func() { _ = append(n.Parents, nil) }, func() { _ = append(n.Parents[0], 1) }, func() { _ = append(n.Tables, nil) }, func() { _ = append(n.Tables[0], api.Rat{}) }, func() { _ = append(n.Tables[0][0].Den, 1) },
		func() { _ = append(f.Properties, "z") }, func() { _ = append(f.Vars, api.VarDecl{}) }, func() { _ = append(f.Vars[0].Count, 1) }, func() { _ = append(f.Vars[0].Values, "z") }, func() { _ = append(f.Vars[0].Properties, "z") },
		func() { _ = append(f.Probs, api.ProbDecl{}) }, func() { _ = append(f.Probs[0].Parents, "z") }, func() { _ = append(f.Probs[0].Entries, api.Entry{}) }, func() { _ = append(f.Probs[0].Properties, "z") },
		func() { _ = append(entry.Given, "z") }, func() { _ = append(entry.Numbers, nil) }, func() { _ = append(entry.Numbers[1], api.Term{}) }, func() { _ = append(entry.Numbers[1][0].Number.Num.Mag, 1) },
		func() { _ = append(boxes, api.Box[api.Rat]{Scope: []int{1}}) }, func() { _ = append(boxes[0].Cells, api.Rat{}) }, func() { _ = append(ints, 1) }, func() { _ = append(texts, "z") }, func() { _ = append(rat.Num.Mag, 1) },
	}
}

// TestWatch: each change is seen, and nothing else.
func TestWatch(t *testing.T) {
	_, all := roomyThings()
	for i := range all {
		put, changes := roomyThings()
		var r samples.Rooms
		put(&r)
		still := r.Watch()
		if !still() || !still() {
			t.Fatal("nothing was changed")
		}
		changes[i]()
		if still() {
			t.Errorf("change %d was not seen", i)
		}
	}
}

// TestApart: lists of their own are apart; a list that is in twice is not, nor
// are two that have spare room in common.
func TestApart(t *testing.T) {
	put, _ := roomyThings()
	var r samples.Rooms
	put(&r)
	if !r.Apart() {
		t.Fatal("all have lists of their own")
	}
	put(&r)
	if r.Apart() {
		t.Error("all of them are in twice")
	}
	n, f := samples.Rain(), wholeFile()
	number := f.Probs[0].Entries[0].Numbers[0]
	boxes := []api.Box[api.Rat]{{Scope: []int{0}, Sizes: []int{2}, Cells: samples.Even(2)}}
	for what, both := range map[string]func(r *samples.Rooms){
		"numbers":          func(r *samples.Rooms) { r.Ints([]int{1, 2, 3}[1:1]); r.Ints(n.Parents[1]); r.Ints(n.Parents[1]) },
		"a table's scope":  func(r *samples.Rooms) { r.Boxes(boxes); r.Ints(boxes[0].Scope) },
		"spare room":       func(r *samples.Rooms) { l := []int{1, 2, 3}; r.Ints(l[:1]); r.Ints(l[2:]) },
		"texts":            func(r *samples.Rooms) { r.Net(n); r.Texts(n.Values[1]) },
		"fractions":        func(r *samples.Rooms) { r.Net(n); r.Rats(n.Tables[0]) },
		"limbs":            func(r *samples.Rooms) { r.Net(n); r.Rat(n.Tables[0][1]) },
		"limbs of terms":   func(r *samples.Rooms) { r.File(f); r.Rat(number[0].Number) },
		"a count":          func(r *samples.Rooms) { r.File(f); r.Rat(api.Rat{Den: f.Vars[0].Count}) },
		"names of a row":   func(r *samples.Rooms) { r.File(f); r.Texts(f.Probs[0].Entries[0].Given) },
		"lists of numbers": func(r *samples.Rooms) { r.Net(n); r.Net(api.Net{Parents: n.Parents[:1]}) },
		"lists of values":  func(r *samples.Rooms) { r.Net(n); r.Net(api.Net{Values: n.Values[:0]}) },
		"lists of tables": func(r *samples.Rooms) {
			r.Net(n)
			r.Net(api.Net{Tables: n.Tables[2:]})
			r.Net(api.Net{Tables: n.Tables[:0]})
		},
		"variables": func(r *samples.Rooms) { r.File(f); r.File(api.File{Vars: f.Vars[:0]}) },
		"blocks":    func(r *samples.Rooms) { r.File(f); r.File(api.File{Probs: f.Probs[:0]}) },
		"entries": func(r *samples.Rooms) {
			r.File(f)
			r.File(api.File{Probs: []api.ProbDecl{{Entries: f.Probs[0].Entries[:0]}}})
		},
		"lists of numbers'": func(r *samples.Rooms) {
			r.File(f)
			r.File(api.File{Probs: []api.ProbDecl{{Entries: []api.Entry{{Numbers: f.Probs[0].Entries[0].Numbers[:0]}}}}})
		},
	} {
		var r samples.Rooms
		both(&r)
		if r.Apart() {
			t.Errorf("%s: not seen", what)
		}
	}
}

// TestRoomy: what has spare room is the same otherwise, and shares nothing.
func TestRoomy(t *testing.T) {
	n := samples.Rain()
	room := samples.RoomyNet(n)
	var r samples.Rooms
	r.Net(n)
	r.Net(room)
	if !r.Apart() {
		t.Error("a network shares memory with one with more room")
	}
	if !slices.Equal(room.Names, n.Names) || !slices.EqualFunc(room.Values, n.Values, slices.Equal) || !samples.SameLists(room.Parents, n.Parents) || cap(room.Parents[0]) < 8 {
		t.Errorf("%v, with room %v", n, room)
	}
	for v, table := range n.Tables {
		if !slices.EqualFunc(room.Tables[v], table, samples.SameLimbs) {
			t.Errorf("table %d is %v, with room %v", v, table, room.Tables[v])
		}
	}
	f := wholeFile()
	with := samples.RoomyFile(f)
	var s samples.Rooms
	s.File(f)
	s.File(with)
	numbers := with.Probs[0].Entries[0].Numbers
	if !s.Apart() || with.Vars[0].Name != "x" || len(numbers) != 2 || samples.Wording(numbers[0]) != "1/2 n" || cap(numbers[1]) < 8 {
		t.Errorf("%v, with room %v", f, with)
	}
}
