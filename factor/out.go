package factor

import (
	"slices"

	"credence/api"
	"credence/radix"
	"credence/ring"
)

// Out is the table with a variable summed out.
func Out[T any](r ring.Ring[T], a api.Box[T], v int) (api.Box[T], api.Errno) {
	if r == nil {
		return api.Box[T]{}, api.ErrNil
	}
	place, code := placeOf(a, v)
	if code != api.OK {
		return api.Box[T]{}, code
	}
	rest := without(a, place)
	column := make([]T, a.Sizes[place])
	apart := stride(a, place)
	block := len(column) * apart
	for from := 0; from < len(a.Cells); from += block {
		for first := from; first < from+apart; first++ {
			for value := range column {
				column[value] = a.Cells[first+value*apart]
			}
			rest.Cells = append(rest.Cells, ring.Sum(r, column...))
		}
	}
	return rest, api.OK
}

// Given is the table in which a variable has a value.
func Given[T any](a api.Box[T], f api.Fix) (api.Box[T], api.Errno) {
	place, code := placeOf(a, f.Var)
	if code != api.OK {
		return api.Box[T]{}, code
	}
	size := a.Sizes[place]
	if f.Value < 0 || f.Value >= size {
		return api.Box[T]{}, api.ErrRange
	}
	rest := without(a, place)
	apart := stride(a, place)
	for from := f.Value * apart; from < len(a.Cells); from += size * apart {
		rest.Cells = append(rest.Cells, a.Cells[from:from+apart]...)
	}
	return rest, api.OK
}

// placeOf is which of a table's variables v is, or why it is none.
func placeOf[T any](a api.Box[T], v int) (int, api.Errno) {
	if code := Check(a); code != api.OK {
		return 0, code
	}
	place, in := slices.BinarySearch(a.Scope, v)
	if !in {
		return 0, api.ErrScope
	}
	return place, api.OK
}

// without is a table of the other variables; its cells are still to come.
func without[T any](a api.Box[T], place int) api.Box[T] {
	return api.Box[T]{
		Scope: slices.Concat(a.Scope[:place], a.Scope[place+1:]),
		Sizes: slices.Concat(a.Sizes[:place], a.Sizes[place+1:]),
		Cells: make([]T, 0, len(a.Cells)/a.Sizes[place]),
	}
}

// stride is how far apart the cells of two neighbouring values of a variable
// are: as far as there are choices of what changes faster.
func stride[T any](a api.Box[T], place int) int {
	// Of a table that may be there is no error to tell.
	apart, _ := radix.Count(a.Sizes[place+1:])
	return apart
}
