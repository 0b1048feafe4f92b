package frac_test

import (
	"strings"
	"testing"

	"credence/api"
	"credence/frac"
)

// 3.6: what follows. (That of Terms is in terms_test.go.)

func TestSumsAndProducts(t *testing.T) {
	list := few()
	for _, a := range list {
		for _, b := range list {
			check(t, "a + b", frac.Add(a, b), frac.Add(b, a))
			check(t, "a b", frac.Mul(a, b), frac.Mul(b, a))
			check(t, "a - b", frac.Sub(a, b), frac.Add(a, frac.Neg(b)))
			check(t, "a - b + b", frac.Add(frac.Sub(a, b), b), lowered(a))
			if frac.Cmp(a, b) != frac.Sign(frac.Sub(a, b)) || frac.Cmp(a, b) != -frac.Cmp(b, a) {
				t.Fatalf("Cmp(%v, %v): %d", a, b, frac.Cmp(a, b))
			}
			for _, c := range list {
				check(t, "a + b + c", frac.Add(frac.Add(a, b), c), frac.Add(a, frac.Add(b, c)))
				check(t, "a b c", frac.Mul(frac.Mul(a, b), c), frac.Mul(a, frac.Mul(b, c)))
				check(t, "a (b + c)", frac.Mul(a, frac.Add(b, c)), frac.Add(frac.Mul(a, b), frac.Mul(a, c)))
			}
		}
	}
}

func TestDivUndoesMul(t *testing.T) {
	list := many()
	for i, a := range list {
		for j, b := range list {
			if (i+j)%5 != 0 {
				continue
			}
			got, e := frac.Div(frac.Mul(a, b), b)
			if frac.Sign(b) == 0 {
				checkError(t, "a b over b", got, e, api.ErrZero)
				continue
			}
			checkOK(t, "a b over b", got, e, lowered(a))
			got, e = frac.Div(a, b)
			checkOK(t, "a over b, times b", frac.Mul(got, b), e, lowered(a))
		}
	}
}

func TestTextThereAndBack(t *testing.T) {
	for _, a := range many() {
		s := frac.Text(a)
		check(t, "Parse of Text", read(t, s), lowered(a))
		if again := frac.Text(read(t, s)); again != s {
			t.Fatalf("Text of Parse of %s: %s", s, again)
		}
		digits, below := strings.CutPrefix(s, "-")
		if below != (frac.Sign(a) < 0) {
			t.Fatalf("Text of %v: %s", a, s)
		}
		check(t, "noughts ahead", read(t, "000"+strings.Replace(digits, "/", "/00", 1)), read(t, digits))
	}
}
