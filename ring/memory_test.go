package ring_test

import (
	"slices"
	"testing"

	"credence/api"
	"credence/ring"
	"credence/samples"
)

// R3, R5: what is handed in is not changed, what is answered is new memory.

// marks are limbs that no number of these tests has.
var marks = samples.Marks[uint32]{Spare: 0xdeadbeef, Ink: 0x55aa55aa}

// calls are all that a ring tells of two things, by itself and by the functions.
func calls[T any](r ring.Ring[T]) map[string]func(a, b T) []T {
	return map[string]func(a, b T) []T{
		"Zero and One": func(a, b T) []T { return []T{r.Zero(), r.Zero(), r.One(), r.One()} },
		"Add":          func(a, b T) []T { return []T{r.Add(a, b), r.Add(b, a), r.Add(a, a)} },
		"Mul":          func(a, b T) []T { return []T{r.Mul(a, b), r.Mul(b, a), r.Mul(b, b)} },
		"Same":         func(a, b T) []T { r.Same(a, b); return nil },
		"with the ends": func(a, b T) []T {
			return []T{r.Add(a, r.Zero()), r.Add(r.Zero(), b), r.Mul(a, r.One()), r.Mul(r.One(), b)}
		},
		"Sum":                func(a, b T) []T { return []T{ring.Sum(r), ring.Sum(r, a), ring.Sum(r, b), ring.Sum(r, a, b, a)} },
		"Product":            func(a, b T) []T { return []T{ring.Product(r), ring.Product(r, a), ring.Product(r, b, a)} },
		"Power":              func(a, b T) []T { return powers(r, a, b) },
		"what is made of it": func(a, b T) []T { s := r.Add(a, b); return []T{s, r.Add(s, r.Zero()), r.Mul(s, r.One())} },
	}
}

// powers are some powers of two things.
func powers[T any](r ring.Ring[T], a, b T) []T {
	var out []T
	for n := range 4 {
		x, _ := ring.Power(r, a, n)
		y, _ := ring.Power(r, b, n)
		out = append(out, x, y)
	}
	return out
}

func TestMemoryOfRats(t *testing.T) {
	for _, r := range fractions() {
		for what, call := range calls(r) {
			for _, a := range odd() {
				for _, b := range odd() {
					limbs := func(in [][]uint32) [][]uint32 {
						return samples.Limbs(call(long(a.Num.Neg, in[0], in[1]), long(b.Num.Neg, in[2], in[3]))...)
					}
					if wrong := samples.Alone(limbs, samples.Limbs(a, b), marks); wrong != "" {
						t.Fatalf("%T: %s of %v and %v: %s", r, what, a, b, wrong)
					}
				}
			}
		}
	}
}

// halves are the fractions of slopes.
func halves(list ...ring.Slope) []api.Rat {
	var out []api.Rat
	for _, a := range list {
		out = append(out, a.At, a.By)
	}
	return out
}

// laid is a slope over other limbs, the sides being its own.
func laid(a ring.Slope, in [][]uint32) ring.Slope {
	return ring.Slope{At: long(a.At.Num.Neg, in[0], in[1]), By: long(a.By.Num.Neg, in[2], in[3])}
}

func TestMemoryOfSlopes(t *testing.T) {
	list := slopes(odd(), odd())
	for what, call := range calls[ring.Slope](ring.Slopes{}) {
		for i, a := range list {
			b := list[(11*i+5)%len(list)]
			limbs := func(in [][]uint32) [][]uint32 {
				return samples.Limbs(halves(call(laid(a, in), laid(b, in[4:]))...)...)
			}
			if wrong := samples.Alone(limbs, samples.Limbs(halves(a, b)...), marks); wrong != "" {
				t.Fatalf("%s of %v and %v: %s", what, a, b, wrong)
			}
		}
	}
}

// TestMemoryOfOneListTwice: all arguments may be the same list.
func TestMemoryOfOneListTwice(t *testing.T) {
	for _, list := range []api.Nat{nil, {0}, {6, 0}, {1}, {full, 7}} {
		for _, r := range fractions() {
			for what, call := range calls(r) {
				limbs := func(in [][]uint32) [][]uint32 {
					a := long(false, in[0], in[0])
					return samples.Limbs(call(a, a)...)
				}
				if wrong := samples.Alone(limbs, [][]uint32{list}, marks); wrong != "" {
					t.Fatalf("%T: %s of %v, again and again: %s", r, what, list, wrong)
				}
			}
		}
	}
}

// TestMemoryOfTheList: the list of Sum and Product is not changed, nor its spare
// room.
func TestMemoryOfTheList(t *testing.T) {
	want := []string{"a", "b", "c", "spare", "room"}
	room := slices.Clone(want)
	for range 2 {
		ring.Sum[string](samples.Strokes{}, room[:3]...)
		ring.Product[string](samples.Strokes{}, room[:3]...)
		ring.Sum[string](nil, room[:3]...)
		ring.Product[string](nil, room[:3]...)
		if !slices.Equal(room, want) {
			t.Fatalf("the list is %v", room)
		}
	}
}

// last is a ring of lists whose sums and products are what came last, as it is.
type last struct{ zero, one []int }

func (r last) Zero() []int        { return r.zero }
func (r last) One() []int         { return r.one }
func (last) Add(a, b []int) []int { return b }
func (last) Mul(a, b []int) []int { return b }
func (last) Same(a, b []int) bool { return slices.Equal(a, b) }

// TestHandedOn: what a ring tells is handed on as it is.
func TestHandedOn(t *testing.T) {
	r := last{zero: []int{0}, one: []int{1}}
	a, b := []int{2, 3}, []int{4}
	p, _ := ring.Power[[]int](r, a, 2)
	q, _ := ring.Power[[]int](r, a, 0)
	for what, c := range map[string]struct{ got, want []int }{
		"Sum":             {ring.Sum[[]int](r, b, a), a},
		"Sum of none":     {ring.Sum[[]int](r), r.zero},
		"Product":         {ring.Product[[]int](r, a, b), b},
		"Product of none": {ring.Product[[]int](r), r.one},
		"Power":           {p, a},
		"Power, not once": {q, r.one},
	} {
		if len(c.got) != len(c.want) || &c.got[0] != &c.want[0] {
			t.Errorf("%s: %v is not the list itself", what, c.got)
		}
	}
}
