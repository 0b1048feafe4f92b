package samples_test

import (
	"testing"

	"credence/ring"
	"credence/samples"
)

// TestRings: strokes tell what is done, and the clock goes round.
func TestRings(t *testing.T) {
	var s ring.Ring[string] = samples.Strokes{}
	if got := s.Add(s.Mul("a", s.One()), s.Mul(s.Zero(), "b")); got != "((a*1)+(0*b))" || !s.Same(got, got) || s.Same(got, "a") {
		t.Errorf("strokes: %s", got)
	}
	var none *samples.Clock
	var c ring.Ring[int] = none
	if c.Add(7, 8) != 3 || c.Mul(5, 7) != 11 || c.Add(c.Zero(), c.One()) != 1 || !c.Same(1, 13) || c.Same(1, 2) {
		t.Error("the clock")
	}
}
