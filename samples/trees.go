package samples

import (
	"iter"
	"math"
	"slices"

	"credence/api"
)

// Tree is an expression by its parts.
type Tree struct {
	Kind        int8
	Number      api.Rat
	At          int   // its place in the list
	Left, Right *Tree // the - of one has the right one alone
}

// IsSum is whether it is a + or - of two.
func (x *Tree) IsSum() bool { return x.Kind == api.TermPlus || x.Kind == api.TermMinus }

// IsTwo is whether it is any sign of two.
func (x *Tree) IsTwo() bool { return x.Left != nil }

// takes is how many a term takes from the pile; one of no kind takes more than
// there ever are.
func takes(kind int8) int {
	switch kind {
	case api.TermNumber:
		return 0
	case api.TermNeg:
		return 1
	case api.TermPlus, api.TermMinus, api.TermTimes, api.TermOver:
		return 2
	}
	return math.MaxInt
}

// TreeOf is the tree of a list, found with a pile; nil, if it is no expression.
func TreeOf(l []api.Term) *Tree {
	var pile []*Tree
	for at, term := range l {
		x := &Tree{Kind: term.Kind, Number: term.Number, At: at}
		count := takes(term.Kind)
		if len(pile) < count {
			return nil
		}
		if count > 0 {
			x.Right = pile[len(pile)-1]
		}
		if count > 1 {
			x.Left = pile[len(pile)-2]
		}
		pile = append(pile[:len(pile)-count], x)
	}
	if len(pile) != 1 {
		return nil
	}
	return pile[0]
}

// Lists goes over all lists of up to most terms of some kinds; the numbers are
// 1, 2, 3 and so on.
func Lists(kinds []int8, most int) iter.Seq[[]api.Term] {
	return func(yield func([]api.Term) bool) {
		var grow func(l []api.Term, next int) bool
		grow = func(l []api.Term, next int) bool {
			if !yield(l) {
				return false
			}
			for _, kind := range kinds {
				longer, after := with(l, kind, next)
				if len(l) < most && !grow(longer, after) {
					return false
				}
			}
			return true
		}
		grow(nil, 1)
	}
}

// Expressions goes over all expressions of up to most terms; the numbers are
// 1, 2, 3 and so on.
func Expressions(most int) iter.Seq[[]api.Term] {
	return func(yield func([]api.Term) bool) {
		var grow func(l []api.Term, high, next int) bool
		grow = func(l []api.Term, high, next int) bool {
			if high == 1 && !yield(l) {
				return false
			}
			for _, kind := range Kinds() {
				pile := high - takes(kind) + 1
				if high < takes(kind) || len(l)+pile > most {
					continue
				}
				longer, after := with(l, kind, next)
				if !grow(longer, pile, after) {
					return false
				}
			}
			return true
		}
		grow(nil, 0, 1)
	}
}

// with is a list with a term of a kind behind it; a number is the next one, and
// the one behind that comes next.
func with(l []api.Term, kind int8, next int) ([]api.Term, int) {
	if kind == api.TermNumber {
		return append(slices.Clip(l), Whole(next)), next + 1
	}
	return append(slices.Clip(l), Sign(kind)), next
}

// Grown are the terms of an expression with so many signs; below chooses, of
// the numbers from 0 on, one that is below the one that it is handed.
func Grown(below func(int) int, signs int) []api.Term {
	if signs == 0 {
		return []api.Term{Number([]api.Rat{Ratio(1, 1), Ratio(1, 4), Ratio(300, 1), Ratio(0, 1), Ratio(31, 10)}[below(5)])}
	}
	kind := Kinds()[below(5)+1]
	if kind == api.TermNeg {
		return append(Grown(below, signs-1), Sign(kind))
	}
	left := below(signs)
	return append(append(Grown(below, left), Grown(below, signs-1-left)...), Sign(kind))
}

// Piled is an expression with so many signs about it, and small expressions
// beside it on the way.
func Piled(below func(int) int, l []api.Term, signs int) []api.Term {
	for range signs {
		kind := Kinds()[below(5)+1]
		beside := Grown(below, below(3))
		switch {
		case kind == api.TermNeg:
			l = append(l, Sign(kind))
		case below(3) == 0:
			l = append(append(l, beside...), Sign(kind))
		default:
			l = append(append(beside, l...), Sign(kind))
		}
	}
	return l
}
