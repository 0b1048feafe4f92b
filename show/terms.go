package show

import (
	"slices"
	"strings"

	"credence/api"
	"credence/decimal"
	"credence/frac"
)

// How firmly a part holds together. It stands in brackets where a firmer one
// must stand.
const (
	sum     = iota // a + or - of two
	product        // a * or / of two
	unary          // a number, or the - of one
)

// part is what a term makes of those ahead of it: an expression that ends at
// this term. What is on the pile lies side by side in the list: the upper one
// ends right ahead of the sign that takes it, the next one right ahead of
// where the upper one begins.
type part struct {
	first int // where it begins
	bond  int
	deep  int // how deep its text is
}

// deepAs is how deep a part is where one that holds together so must stand.
func (p part) deepAs(bond int) int {
	if p.bond < bond {
		return p.deep + 1
	}
	return p.deep
}

// partsOf are the parts of an expression, one for each of its terms.
func partsOf(l []api.Term) ([]part, api.Errno) {
	parts := make([]part, 0, len(l))
	for _, term := range l {
		next, ok := partBehind(parts, term.Kind)
		if !ok {
			return nil, api.ErrSyntax
		}
		parts = append(parts, next)
	}
	if len(parts) == 0 || parts[len(parts)-1].first != 0 {
		return nil, api.ErrSyntax
	}
	return parts, api.OK
}

// partBehind is the part of a term behind these, if it may stand there.
func partBehind(parts []part, kind int8) (part, bool) {
	switch kind {
	case api.TermNumber:
		return part{first: len(parts), bond: unary}, true
	case api.TermNeg:
		return ofOne(parts)
	case api.TermPlus, api.TermMinus:
		return ofTwo(parts, sum)
	case api.TermTimes, api.TermOver:
		return ofTwo(parts, product)
	}
	return part{}, false
}

// ofOne is the part of a sign that takes one from the pile.
func ofOne(parts []part) (part, bool) {
	if len(parts) == 0 {
		return part{}, false
	}
	inner := parts[len(parts)-1]
	return part{first: inner.first, bond: unary, deep: inner.deepAs(unary) + 1}, true
}

// ofTwo is the part of a sign that takes two from the pile.
func ofTwo(parts []part, bond int) (part, bool) {
	if len(parts) == 0 || parts[len(parts)-1].first == 0 {
		return part{}, false
	}
	right := parts[len(parts)-1]
	left := parts[right.first-1]
	deep := max(left.deepAs(bond), right.deepAs(bond+1))
	return part{first: left.first, bond: bond, deep: deep}, true
}

// wordsOf are an expression's terms as they stand in its text.
func wordsOf(l []api.Term) ([]string, api.Errno) {
	words := make([]string, len(l))
	for i, term := range l {
		word, ok := wordOf(term)
		if !ok {
			return nil, api.ErrNumber
		}
		words[i] = word
	}
	return words, api.OK
}

// wordOf is a sign, or a number if it has a text.
func wordOf(term api.Term) (string, bool) {
	switch term.Kind {
	case api.TermPlus:
		return " + ", true
	case api.TermMinus:
		return " - ", true
	case api.TermTimes:
		return "*", true
	case api.TermOver:
		return "/", true
	case api.TermNeg:
		return "-", true
	}
	if frac.Sign(term.Number) < 0 {
		return "", false
	}
	return decimal.Exact(term.Number)
}

// together is the text of an expression. Its pieces are put from its end to
// its beginning: so what is on a sign's left comes last and is gone on to,
// and long rows of signs are not gone into any deeper than their brackets.
func together(parts []part, words []string) string {
	var pieces []string
	var put func(at, bond int)
	put = func(at, bond int) {
		for {
			own := parts[at]
			switch {
			case own.bond < bond:
				pieces = append(pieces, ")")
				put(at, sum)
				pieces = append(pieces, "(")
				return
			case own.first == at:
				pieces = append(pieces, words[at])
				return
			case own.bond == unary:
				put(at-1, unary)
				pieces = append(pieces, words[at])
				return
			}
			put(at-1, own.bond+1)
			pieces = append(pieces, words[at])
			at, bond = parts[at-1].first-1, own.bond
		}
	}
	put(len(parts)-1, sum)
	slices.Reverse(pieces)
	return strings.Join(pieces, "")
}
