package parse

import (
	"credence/api"
	"credence/decimal"
)

// row reads sums with commas between.
func (r *reader) row() [][]api.Term { return list(r, r.sum) }

// sum reads one that is in no bracket.
func (r *reader) sum() []api.Term {
	r.terms = nil
	r.products()
	return r.terms
}

// put puts a sign behind its parts.
func (r *reader) put(kind int8) { r.terms = append(r.terms, api.Term{Kind: kind}) }

// products reads the parts of a sum. Each sign is put behind the part that it
// stands ahead of, so what is on its left is all that came before.
func (r *reader) products() {
	r.unaries()
	for {
		switch {
		case r.took("+"):
			r.unaries()
			r.put(api.TermPlus)
		case r.took("-"):
			r.unaries()
			r.put(api.TermMinus)
		default:
			return
		}
	}
}

// unaries reads the parts of a product.
func (r *reader) unaries() {
	r.unary()
	for {
		switch {
		case r.took("*"):
			r.unary()
			r.put(api.TermTimes)
		case r.took("/"):
			r.unary()
			r.put(api.TermOver)
		default:
			return
		}
	}
}

// unary reads a number, or a - or a bracket with what is in it.
func (r *reader) unary() {
	switch {
	case !r.at("-") && !r.at("("):
		r.number()
	case r.open == api.MaxDeep:
		r.refuse(api.ErrDeep)
	default:
		r.open++
		r.inner()
		r.open--
	}
}

// inner reads a unary that begins with a - or a bracket.
func (r *reader) inner() {
	if r.took("-") {
		r.unary()
		r.put(api.TermNeg)
		return
	}
	r.want("(")
	r.products()
	r.want(")")
}

// number reads a number.
func (r *reader) number() {
	// What lex calls a number is one for decimal too.
	value, _ := decimal.Parse(r.take(api.TokenNumber))
	r.terms = append(r.terms, api.Term{Kind: api.TermNumber, Number: value})
}
