package samples

import (
	"slices"

	"credence/api"
)

// Watch begins to watch over the lists. What it answers says whether all of
// them are as they were then, spare room too.
func (r *Rooms) Watch() func() bool {
	still := []func() bool{
		watched(r.limbs, equal), watched(r.ints, equal), watched(r.texts, equal), watched(r.rats, sameRat), watched(r.terms, sameTerm),
		watched(r.boxes, sameBox), watched(r.vars, sameVar), watched(r.probs, sameProb), watched(r.entries, sameEntry),
		watched(r.ofInts, sameList), watched(r.ofTexts, sameList), watched(r.ofRats, sameList), watched(r.ofTerms, sameList),
	}
	return func() bool {
		return !slices.ContainsFunc(still, func(is func() bool) bool { return !is() })
	}
}

// watched watches over lists of one kind.
func watched[T any](lists [][]T, same func(a, b T) bool) func() bool {
	was := make([][]T, len(lists))
	for i, list := range lists {
		was[i] = slices.Clone(list[:cap(list)])
	}
	return func() bool {
		for i, list := range lists {
			if !slices.EqualFunc(list[:cap(list)], was[i], same) {
				return false
			}
		}
		return true
	}
}

// equal is whether two things are the same.
func equal[T comparable](a, b T) bool { return a == b }

// sameList is whether two lists are one, in one place; what is in it is watched
// over by itself.
func sameList[T any](a, b []T) bool {
	return len(a) == len(b) && cap(a) == cap(b) && (cap(a) == 0 || &a[:1][0] == &b[:1][0])
}

// sameRat, and those that follow, are whether two things are made of the same
// lists.
func sameRat(a, b api.Rat) bool {
	return a.Num.Neg == b.Num.Neg && sameList(a.Num.Mag, b.Num.Mag) && sameList(a.Den, b.Den)
}

func sameTerm(a, b api.Term) bool { return a.Kind == b.Kind && sameRat(a.Number, b.Number) }

func sameBox(a, b api.Box[api.Rat]) bool {
	return sameList(a.Scope, b.Scope) && sameList(a.Sizes, b.Sizes) && sameList(a.Cells, b.Cells)
}

func sameVar(a, b api.VarDecl) bool {
	return a.Name == b.Name && sameList(a.Count, b.Count) && sameList(a.Values, b.Values) && sameList(a.Properties, b.Properties)
}

func sameProb(a, b api.ProbDecl) bool {
	return a.Name == b.Name && sameList(a.Parents, b.Parents) && sameList(a.Entries, b.Entries) && sameList(a.Properties, b.Properties)
}

func sameEntry(a, b api.Entry) bool {
	return a.Kind == b.Kind && sameList(a.Given, b.Given) && sameList(a.Numbers, b.Numbers)
}
