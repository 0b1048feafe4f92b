package whole_test

import (
	"slices"
	"testing"

	"credence/api"
	"credence/samples"
	"credence/whole"
)

// full is the greatest limb.
const full = 1<<32 - 1

// plus and minus are numbers of some limbs, the lowest first, on either side of
// 0: laid limb by limb, so that they hang on no call that is tested.
func plus(limbs ...uint32) api.Int  { return api.Int{Mag: limbs} }
func minus(limbs ...uint32) api.Int { return api.Int{Neg: true, Mag: limbs} }

// small is a number of one limb, or none.
func small(n int) api.Int {
	switch {
	case n < 0:
		return minus(uint32(-n))
	case n > 0:
		return plus(uint32(n))
	}
	return plus()
}

// read is the number of a text.
func read(t *testing.T, s string) api.Int {
	t.Helper()
	a, e := whole.Parse(s)
	if e != api.OK {
		t.Fatalf("Parse(%s): %v", s, e)
	}
	return a
}

// check holds an answer against the side and the limbs that it should have:
// just these, so that it is normal too.
func check(t *testing.T, what string, got, want api.Int) {
	t.Helper()
	if got.Neg != want.Neg || !slices.Equal(got.Mag, want.Mag) {
		t.Fatalf("%s: %v, want %v", what, got, want)
	}
}

// zeros are all kinds of nought.
func zeros() []api.Int {
	return []api.Int{{}, {Mag: api.Nat{}}, plus(0), plus(0, 0), {Neg: true}, minus(0), minus(0, 0, 0)}
}

// few are numbers of which all threes are gone through.
func few() []api.Int {
	sizes := append(samples.Nats(6, 7), nil, api.Nat{0}, api.Nat{1}, api.Nat{5, 0}, api.Nat{full, full}, api.Nat{0, 0, 1})
	return samples.Ints(sizes)
}

// many are numbers of which all twos are gone through.
func many() []api.Int {
	return samples.Ints(append(samples.Nats(30, 9), samples.EdgeNats()...))
}
