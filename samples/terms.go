package samples

import (
	"strconv"
	"strings"

	"credence/api"
	"credence/frac"
	"credence/nat"
)

// signsByKind are the signs of terms as the chapters' examples write them, each at
// the place of its kind.
const signsByKind = "  +-*/n"

// Ratio is a fraction as it is written here, not made normal.
func Ratio(num, den int) api.Rat {
	return api.Rat{Num: api.Int{Neg: num < 0, Mag: nat.Of(uint64(max(num, -num)))}, Den: nat.Of(uint64(den))}
}

// Number is a term that is a number.
func Number(a api.Rat) api.Term { return api.Term{Kind: api.TermNumber, Number: a} }

// Whole is a term that is a small whole number.
func Whole(n int) api.Term { return Number(Ratio(n, 1)) }

// Sign is a term that is none.
func Sign(kind int8) api.Term { return api.Term{Kind: kind} }

// Kinds are those of terms that there are.
func Kinds() []int8 {
	return []int8{api.TermNumber, api.TermPlus, api.TermMinus, api.TermTimes, api.TermOver, api.TermNeg}
}

// Terms are a list of terms as the chapters' examples write it: numbers, signs,
// n for TermNeg; k7 is a term of the kind 7. A word that is none of these is a
// slip of the test, which panics.
func Terms(text string) []api.Term {
	var l []api.Term
	for word := range strings.FieldsSeq(text) {
		l = append(l, term(word))
	}
	return l
}

// term is the term of a word.
func term(word string) api.Term {
	if kind := strings.Index(signsByKind, word); kind > 0 && len(word) == 1 {
		return Sign(int8(kind))
	}
	if digits, ok := strings.CutPrefix(word, "k"); ok {
		if kind, err := strconv.ParseInt(digits, 10, 8); err == nil {
			return Sign(int8(kind))
		}
	}
	a, code := frac.Parse(word)
	if code != api.OK {
		panic(word + " is no term")
	}
	return Number(a)
}

// Wording is a list of terms as the chapters' examples write it.
func Wording(l []api.Term) string {
	words := make([]string, len(l))
	for i, x := range l {
		switch {
		case x.Kind == api.TermNumber:
			words[i] = frac.Text(x.Number)
		case x.Kind > api.TermNumber && x.Kind <= api.TermNeg:
			words[i] = signsByKind[x.Kind : x.Kind+1]
		default:
			words[i] = "k" + strconv.Itoa(int(x.Kind))
		}
	}
	return strings.Join(words, " ")
}

// Chain is an expression that is grown from 1 step by step; x is where the
// one before goes.
func Chain(step string, count int) []api.Term {
	ahead, behind, ok := strings.Cut(step, "x")
	if !ok {
		panic(step + " is no step")
	}
	return Terms(strings.Repeat(ahead+" ", count) + "1 " + strings.Repeat(behind+" ", count))
}
