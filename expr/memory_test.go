package expr_test

import (
	"slices"
	"testing"

	"credence/api"
	"credence/expr"
	"credence/samples"
)

// R3, R5: what is handed in is not changed, what is answered is new memory.

// marks are limbs that no number of these tests has.
var marks = samples.Marks[uint32]{Spare: 0xdeadbeef, Ink: 0x55aa55aa}

// laid is a list of terms with its numbers laid over other limbs, the sides
// being its own.
func laid(l []api.Term, in [][]uint32) []api.Term {
	l = slices.Clone(l)
	for i, at := range places(l) {
		l[at].Number.Num.Mag, l[at].Number.Den = in[2*i], in[2*i+1]
	}
	return l
}

// checkAlone looks at the memory of Eval, and of Line at each place.
func checkAlone(t *testing.T, l []api.Term) {
	t.Helper()
	var in []api.Rat
	for _, at := range places(l) {
		in = append(in, l[at].Number)
	}
	eval := func(lists [][]uint32) [][]uint32 {
		a, _ := expr.Eval(laid(l, lists))
		return samples.Limbs(a)
	}
	if wrong := samples.Alone(eval, samples.Limbs(in...), marks); wrong != "" {
		t.Fatalf("Eval(%s): %s", samples.Wording(l), wrong)
	}
	for at := range l {
		line := func(lists [][]uint32) [][]uint32 {
			f, _ := expr.Line(laid(l, lists), at)
			return samples.Limbs(parts(f)...)
		}
		if wrong := samples.Alone(line, samples.Limbs(in...), marks); wrong != "" {
			t.Fatalf("Line(%s, %d): %s", samples.Wording(l), at, wrong)
		}
	}
}

// odd are numbers of all kinds, normal ones and others.
func odd() []api.Rat {
	long := samples.Nats(2, 6)
	return []api.Rat{
		{}, samples.Ratio(1, 1), samples.Ratio(-6, 4),
		{Num: api.Int{Neg: true, Mag: api.Nat{0, 3, 0}}, Den: api.Nat{0, 0}},
		{Num: api.Int{Mag: long[0]}, Den: long[1]},
	}
}

func TestMemory(t *testing.T) {
	for l := range samples.Expressions(4) {
		for l := range filled(l, odd()) {
			checkAlone(t, l)
		}
	}
	for _, list := range []string{"1 2 + 3 -", "1 2 3 / /", "1 2 n * 3 +", "1 2 - n 3 /", "1 2 3 * +"} {
		for l := range filled(samples.Terms(list), odd()) {
			checkAlone(t, l)
		}
	}
}

// sameTerms is whether two lists of terms are the same, limb by limb.
func sameTerms(a, b []api.Term) bool {
	return slices.EqualFunc(a, b, func(x, y api.Term) bool { return x.Kind == y.Kind && samples.SameLimbs(x.Number, y.Number) })
}

// TestMemoryOfTheList: the list itself is not changed, nor its spare room.
func TestMemoryOfTheList(t *testing.T) {
	spare := samples.Terms("77 k78 n")
	for l := range samples.Lists(samples.Kinds(), 4) {
		before := slices.Concat(l, spare)
		room := slices.Concat(l, spare)
		for range 2 {
			expr.Eval(room[:len(l)])
			expr.Deep(room[:len(l)])
			for at := range l {
				expr.Line(room[:len(l)], at)
			}
		}
		if !sameTerms(room, before) {
			t.Fatalf("%s was changed: %s", samples.Wording(before), samples.Wording(room))
		}
	}
}

// TestMemoryOfOneNumberTwice: numbers may share their limbs.
func TestMemoryOfOneNumberTwice(t *testing.T) {
	for l := range samples.Expressions(5) {
		call := func(in [][]uint32) [][]uint32 {
			a := samples.Number(api.Rat{Num: api.Int{Mag: in[0]}, Den: in[0]})
			l := slices.Clone(l)
			for _, at := range places(l) {
				l[at] = a
			}
			value, _ := expr.Eval(l)
			f, _ := expr.Line(l, places(l)[0])
			return samples.Limbs(append(parts(f), value)...)
		}
		if wrong := samples.Alone(call, [][]uint32{{6, 0, 7}}, marks); wrong != "" {
			t.Fatalf("%s: %s", samples.Wording(l), wrong)
		}
	}
}
