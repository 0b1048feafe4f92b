package model

import (
	"slices"

	"credence/api"
	"credence/dag"
	"credence/nat"
)

// A draft is what is known of a file's network. What may be wrong is judged
// class by class: each judge relies on what those ahead of it have learnt, and
// found well.
type draft struct {
	file   api.File
	vars   roll
	values []roll  // of each variable
	blocks []block // as they stand in the file
	places roll    // of the blocks, by their variables' names
}

// draftOf is a draft of which only the file is known.
func draftOf(f api.File) *draft { return &draft{file: f, vars: roll{}, places: roll{}} }

// names learns what all names stand for.
func (d *draft) names() api.Errno {
	for _, v := range d.file.Vars {
		values, once := rollOf(v.Values)
		if !once || !d.vars.enter(v.Name) {
			return api.ErrTwice
		}
		d.values = append(d.values, values)
	}
	for _, p := range d.file.Probs {
		if code := d.describe(p); code != api.OK {
			return code
		}
	}
	return api.OK
}

// describe learns what the names of a block stand for.
func (d *draft) describe(p api.ProbDecl) api.Errno {
	own, known := d.vars[p.Name]
	if !known {
		return api.ErrUnknown
	}
	if !d.places.enter(p.Name) {
		return api.ErrTwice
	}
	b := block{width: len(d.values[own]), rows: map[string]int{}, other: none}
	ahead := roll{}
	for _, name := range p.Parents {
		parent, known := d.vars[name]
		if !known {
			return api.ErrUnknown
		}
		if !ahead.enter(name) {
			return api.ErrTwice
		}
		b.parents = append(b.parents, parent)
		b.sizes = append(b.sizes, len(d.values[parent]))
	}
	for _, e := range p.Entries {
		given, known := d.given(b.parents, e)
		if !known {
			return api.ErrUnknown
		}
		b.entries = append(b.entries, entry{Entry: e, given: given})
	}
	d.blocks = append(d.blocks, b)
	return api.OK
}

// given are the values that a row's names stand for, as far as there are
// parents, and whether all of these names stand for one.
func (d *draft) given(parents []int, e api.Entry) ([]int, bool) {
	var given []int
	if e.Kind != api.EntryRow {
		return nil, true
	}
	for i, name := range e.Given[:min(len(e.Given), len(parents))] {
		value, known := d.values[parents[i]][name]
		if !known {
			return nil, false
		}
		given = append(given, value)
	}
	return given, true
}

// parents are those of each variable; where there is no block there are none.
func (d *draft) parents() [][]int {
	parents := make([][]int, len(d.file.Vars))
	for v, decl := range d.file.Vars {
		if place, told := d.places[decl.Name]; told {
			parents[v] = d.blocks[place].parents
		}
	}
	return parents
}

// cycles judges who hangs on whom.
func (d *draft) cycles() api.Errno { return dag.Check(d.parents()) }

// amounts judges what is wanting, or too many.
func (d *draft) amounts() api.Errno {
	for _, v := range d.file.Vars {
		if code := amountOfValues(v); code != api.OK {
			return code
		}
	}
	for i := range d.blocks {
		if code := d.blocks[i].amounts(); code != api.OK {
			return code
		}
	}
	if len(d.blocks) < len(d.file.Vars) {
		return api.ErrMissing
	}
	return api.OK
}

// amountOfValues judges how many values a variable has.
func amountOfValues(v api.VarDecl) api.Errno {
	there := nat.Of(uint64(len(v.Values)))
	switch {
	case len(v.Values) == 0 || nat.Cmp(there, v.Count) < 0:
		return api.ErrMissing
	case nat.Cmp(there, v.Count) > 0:
		return api.ErrExtra
	}
	return api.OK
}

// entries works all numbers out.
func (d *draft) entries() api.Errno {
	for _, b := range d.blocks {
		for i := range b.entries {
			if code := b.entries[i].workOut(); code != api.OK {
				return code
			}
		}
	}
	return api.OK
}

// rows judges the numbers of each row together.
func (d *draft) rows() api.Errno {
	for _, b := range d.blocks {
		for _, e := range b.entries {
			if !areWhole(e.cells, b.width) {
				return api.ErrRow
			}
		}
	}
	return api.OK
}

// many judges how large all is. Until then no table is laid out.
func (d *draft) many() api.Errno {
	if len(d.file.Vars) > api.MaxVars {
		return api.ErrMany
	}
	for _, b := range d.blocks {
		if b.size() > api.MaxCells {
			return api.ErrMany
		}
	}
	return api.OK
}

// net is the network.
func (d *draft) net() api.Net {
	n := api.Net{Name: d.file.Name, Parents: d.parents()}
	for _, v := range d.file.Vars {
		n.Names = append(n.Names, v.Name)
		n.Values = append(n.Values, slices.Clone(v.Values))
		n.Tables = append(n.Tables, d.blocks[d.places[v.Name]].table())
	}
	return n
}
