package frac

import (
	"iter"

	"credence/api"
	"credence/whole"
)

// Terms goes over the continued fraction.
func Terms(a api.Rat) iter.Seq[api.Int] {
	// Copies, since a's memory may be written over ahead of the last term.
	all := ratio{whole.Norm(a.Num), whole.Norm(under(a))}
	return func(yield func(api.Int) bool) {
		left := all
		for left.some() {
			var term api.Int
			term, left = left.split()
			if !yield(term) {
				return
			}
		}
	}
}

// ratio is one number over another that is not below 0. It is not brought to
// lowest terms: what is split off it does not hang on these.
type ratio struct{ num, den api.Int }

// some is whether there is a fraction, not something over 0.
func (r ratio) some() bool { return whole.Sign(r.den) != 0 }

// split is the first term, and 1 over what is left behind it: over 0, if
// nothing is.
func (r ratio) split() (api.Int, ratio) {
	term, left, _ := whole.Floor(r.num, r.den)
	return term, ratio{r.den, left}
}

// follow is the fraction of some terms and one more, next being that without
// the new one, and last that without the two at the end.
func follow(last, next ratio, term api.Int) ratio {
	return ratio{
		whole.Add(last.num, whole.Mul(term, next.num)),
		whole.Add(last.den, whole.Mul(term, next.den)),
	}
}
