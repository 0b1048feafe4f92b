package model

import (
	"slices"
	"strconv"

	"credence/api"
	"credence/expr"
	"credence/radix"
)

// none is the place of an entry that there is not.
const none = -1

// A block is what a file says of a variable's table.
type block struct {
	parents []int
	sizes   []int // how many values each parent has
	width   int   // how many values the variable has
	entries []entry
	rows    map[string]int // the place among the entries of the row of some values, by their key
	other   int            // the place of the table, or of the default
}

// An entry is a block's as it stands, the values that its names stand for, and
// what its numbers come to.
type entry struct {
	api.Entry
	given []int
	cells []api.Rat
}

// keyOf is a text that other values of the same parents don't have.
func keyOf(values []int) string {
	var key []byte
	for _, value := range values {
		key = append(strconv.AppendInt(key, int64(value), 10), ' ')
	}
	return string(key)
}

// size is how many cells the table must have.
func (b *block) size() int { return count(append(slices.Clone(b.sizes), b.width)) }

// isTable is whether a table is told, which is the first entry then.
func (b *block) isTable() bool { return b.other == 0 && b.entries[0].Kind == api.EntryTable }

// amounts judges which of the entries are wanting, or too many, and which of
// their names and numbers.
func (b *block) amounts() api.Errno {
	for at := range b.entries {
		if code := b.amount(at); code != api.OK {
			return code
		}
	}
	if b.other == none && len(b.rows) < count(b.sizes) {
		return api.ErrMissing
	}
	return api.OK
}

// amount judges an entry likewise, those ahead of it being judged already.
func (b *block) amount(at int) api.Errno {
	e, must := b.entries[at], b.width
	switch e.Kind {
	case api.EntryTable:
		if at > 0 {
			return api.ErrExtra
		}
		b.other, must = at, b.size()
	case api.EntryDefault:
		if b.other != none {
			return api.ErrExtra
		}
		b.other = at
	case api.EntryRow:
		if code := b.amountOfGiven(at); code != api.OK {
			return code
		}
	default:
		return api.ErrExtra
	}
	return amount(len(e.Numbers), must)
}

// amountOfGiven judges the names of a row, and whether it may stand where it
// does.
func (b *block) amountOfGiven(at int) api.Errno {
	if b.isTable() {
		return api.ErrExtra
	}
	e := b.entries[at]
	if code := amount(len(e.Given), len(b.parents)); code != api.OK {
		return code
	}
	key := keyOf(e.given)
	if _, ahead := b.rows[key]; ahead {
		return api.ErrExtra
	}
	b.rows[key] = at
	return api.OK
}

// amount judges whether there are as many as there must be.
func amount(there, must int) api.Errno {
	switch {
	case there < must:
		return api.ErrMissing
	case there > must:
		return api.ErrExtra
	}
	return api.OK
}

// workOut learns what the numbers of an entry come to.
func (e *entry) workOut() api.Errno {
	for _, number := range e.Numbers {
		x, code := expr.Eval(number)
		switch {
		case code == api.ErrZero || code == api.OK && !isChance(x):
			return api.ErrEntry
		case code != api.OK:
			return code
		}
		e.cells = append(e.cells, x)
	}
	return api.OK
}

// table lays the numbers out.
func (b *block) table() []api.Rat {
	if b.isTable() {
		return b.entries[0].cells
	}
	var table []api.Rat
	for _, values := range radix.All(b.sizes) {
		// A default may stand in several rows, which must not share memory.
		for _, x := range b.row(values) {
			table = append(table, normal(x))
		}
	}
	return table
}

// row are the numbers where the parents have some values.
func (b *block) row(values []int) []api.Rat {
	if at, told := b.rows[keyOf(values)]; told {
		return b.entries[at].cells
	}
	return b.entries[b.other].cells
}
