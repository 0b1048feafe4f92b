package factor

import (
	"slices"

	"credence/api"
	"credence/radix"
	"credence/ring"
	"credence/set"
)

// Times is the product of two tables.
func Times[T any](r ring.Ring[T], a, b api.Box[T]) (api.Box[T], api.Errno) {
	if r == nil {
		return api.Box[T]{}, api.ErrNil
	}
	for _, part := range []api.Box[T]{a, b} {
		if code := Check(part); code != api.OK {
			return api.Box[T]{}, code
		}
	}
	scope, sizes, code := joined(a, b)
	if code != api.OK {
		return api.Box[T]{}, code
	}
	count, code := radix.Count(sizes)
	if code != api.OK {
		return api.Box[T]{}, code
	}
	cells := make([]T, count)
	left, right := walkOf(scope, sizes, a.Scope), walkOf(scope, sizes, b.Scope)
	for i := range cells {
		cells[i] = r.Mul(a.Cells[left.at], b.Cells[right.at])
		left.step()
		right.step()
	}
	return api.Box[T]{Scope: scope, Sizes: sizes, Cells: cells}, api.OK
}

// joined are the variables of either table and their sizes.
func joined[T any](a, b api.Box[T]) (scope, sizes []int, code api.Errno) {
	scope = set.Of(a.Scope...).Join(set.Of(b.Scope...)).List()
	sizes = make([]int, len(scope))
	for i, v := range scope {
		left, right := sizeOf(a, v), sizeOf(b, v)
		if left > 0 && right > 0 && left != right {
			return nil, nil, api.ErrScope
		}
		sizes[i] = max(left, right)
	}
	return scope, sizes, api.OK
}

// sizeOf is how many values a variable has in a table, 0 if it is not in its
// scope.
func sizeOf[T any](b api.Box[T], v int) int {
	at, in := slices.BinarySearch(b.Scope, v)
	if !in {
		return 0
	}
	return b.Sizes[at]
}

// A walk goes through all choices of values of a product, in order, and knows
// where the cell of one of its tables is. It counts on instead of asking for
// digits and places, which would be divisions and new lists for each cell.
type walk struct {
	sizes   []int
	values  []int
	strides []int // how far apart the table's cells of two neighbouring values are; 0, if it does not have the variable
	at      int
}

// walkOf is a walk at its beginning; part is the scope of the table.
func walkOf(scope, sizes, part []int) *walk {
	has := set.Of(part...)
	strides := make([]int, len(scope))
	apart := 1
	for i, v := range slices.Backward(scope) {
		if has.Has(v) {
			strides[i] = apart
			apart *= sizes[i]
		}
	}
	return &walk{sizes: sizes, values: make([]int, len(scope)), strides: strides}
}

// step goes to the next choice, and from the last one to the first.
func (w *walk) step() {
	for i, size := range slices.Backward(w.sizes) {
		w.values[i]++
		w.at += w.strides[i]
		if w.values[i] < size {
			return
		}
		w.values[i] = 0
		w.at -= size * w.strides[i]
	}
}
