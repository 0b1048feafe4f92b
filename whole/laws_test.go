package whole_test

import (
	"strings"
	"testing"

	"credence/whole"
)

// 2.6: what follows. (That of Floor and Quo is in divide_test.go.)

func TestSumsAndProducts(t *testing.T) {
	for _, a := range few() {
		for _, b := range few() {
			check(t, "a + b", whole.Add(a, b), whole.Add(b, a))
			check(t, "a b", whole.Mul(a, b), whole.Mul(b, a))
			check(t, "a - b", whole.Sub(a, b), whole.Neg(whole.Sub(b, a)))
			check(t, "a - b + b", whole.Add(whole.Sub(a, b), b), whole.Norm(a))
			for _, c := range few() {
				check(t, "a + b + c", whole.Add(whole.Add(a, b), c), whole.Add(a, whole.Add(b, c)))
				check(t, "a b c", whole.Mul(whole.Mul(a, b), c), whole.Mul(a, whole.Mul(b, c)))
				check(t, "a (b + c)", whole.Mul(a, whole.Add(b, c)), whole.Add(whole.Mul(a, b), whole.Mul(a, c)))
			}
		}
	}
}

func TestTextThereAndBack(t *testing.T) {
	for _, a := range many() {
		s := whole.Text(a)
		check(t, "Parse of Text", read(t, s), whole.Norm(a))
		digits, below := strings.CutPrefix(s, "-")
		if below != (whole.Sign(a) < 0) {
			t.Errorf("Text of %v: %s", a, s)
		}
		check(t, "noughts ahead", read(t, "000"+digits), whole.Norm(read(t, digits)))
		check(t, "- ahead of noughts", read(t, "-000"+digits), whole.Neg(read(t, digits)))
	}
}
