package model_test

import (
	"slices"

	"credence/api"
	"credence/expr"
	"credence/frac"
	"credence/nat"
)

// The judges: what should be told, by the words of the chapter and nothing
// better. Each class may take for granted that there is nothing of those ahead
// of it.

// wrongWith is what is wrong with a file.
func wrongWith(f api.File) api.Errno {
	for _, class := range []func(api.File) api.Errno{namesOf, cyclesOf, amountsOf, entriesOf, rowsOf, manyOf} {
		if e := class(f); e != api.OK {
			return e
		}
	}
	return api.OK
}

// varOf is the variable of a name, -1 if there is none.
func varOf(f api.File, name string) int {
	return slices.IndexFunc(f.Vars, func(v api.VarDecl) bool { return v.Name == name })
}

// blockOf is the block of a name, -1 if there is none.
func blockOf(f api.File, name string) int {
	return slices.IndexFunc(f.Probs, func(p api.ProbDecl) bool { return p.Name == name })
}

// twice is whether a name of a list stands ahead of itself.
func twice(list []string) bool {
	for i, name := range list {
		if slices.Contains(list[:i], name) {
			return true
		}
	}
	return false
}

func namesOf(f api.File) api.Errno {
	for i, v := range f.Vars {
		if varOf(f, v.Name) < i || twice(v.Values) {
			return api.ErrTwice
		}
	}
	for i, p := range f.Probs {
		if varOf(f, p.Name) < 0 {
			return api.ErrUnknown
		}
		if blockOf(f, p.Name) < i {
			return api.ErrTwice
		}
		for j, name := range p.Parents {
			if varOf(f, name) < 0 {
				return api.ErrUnknown
			}
			if slices.Contains(p.Parents[:j], name) {
				return api.ErrTwice
			}
		}
		for _, e := range p.Entries {
			for j, name := range e.Given {
				if e.Kind == api.EntryRow && j < len(p.Parents) && !slices.Contains(f.Vars[varOf(f, p.Parents[j])].Values, name) {
					return api.ErrUnknown
				}
			}
		}
	}
	return api.OK
}

func cyclesOf(f api.File) api.Errno {
	// Blocks whose parents have none that is left go out, until none does.
	left := f.Probs
	for range f.Probs {
		var rest []api.ProbDecl
		for _, p := range left {
			if slices.ContainsFunc(left, func(q api.ProbDecl) bool { return slices.Contains(p.Parents, q.Name) }) {
				rest = append(rest, p)
			}
		}
		left = rest
	}
	if len(left) > 0 {
		return api.ErrCycle
	}
	return api.OK
}

// against is what there are too few or too many of.
func against(there, must int) api.Errno {
	switch {
	case there < must:
		return api.ErrMissing
	case there > must:
		return api.ErrExtra
	}
	return api.OK
}

// rowsAndValues are how many rows and how many values a block's table has; for
// small files.
func rowsAndValues(f api.File, p api.ProbDecl) (rows, values int) {
	rows = 1
	for _, name := range p.Parents {
		rows *= len(f.Vars[varOf(f, name)].Values)
	}
	return rows, len(f.Vars[varOf(f, p.Name)].Values)
}

// kinds are how many entries of a kind there are.
func kinds(entries []api.Entry, kind int8) int {
	count := 0
	for _, e := range entries {
		if e.Kind == kind {
			count++
		}
	}
	return count
}

func amountsOf(f api.File) api.Errno {
	for _, v := range f.Vars {
		count, _ := nat.Uint(v.Count)
		if len(v.Values) == 0 {
			return api.ErrMissing
		}
		if e := against(len(v.Values), int(count)); e != api.OK {
			return e
		}
	}
	for _, p := range f.Probs {
		rows, values := rowsAndValues(f, p)
		for i, e := range p.Entries {
			if code := amountOf(p, i, e, rows, values); code != api.OK {
				return code
			}
		}
		if kinds(p.Entries, api.EntryTable)+kinds(p.Entries, api.EntryDefault) == 0 && kinds(p.Entries, api.EntryRow) < rows {
			return api.ErrMissing
		}
	}
	for _, v := range f.Vars {
		if blockOf(f, v.Name) < 0 {
			return api.ErrMissing
		}
	}
	return api.OK
}

// amountOf is what an entry has too few or too many of.
func amountOf(p api.ProbDecl, at int, e api.Entry, rows, values int) api.Errno {
	ahead := p.Entries[:at]
	switch e.Kind {
	case api.EntryTable:
		if at > 0 {
			return api.ErrExtra
		}
		return against(len(e.Numbers), rows*values)
	case api.EntryDefault:
		if kinds(ahead, api.EntryTable)+kinds(ahead, api.EntryDefault) > 0 {
			return api.ErrExtra
		}
		return against(len(e.Numbers), values)
	case api.EntryRow:
		if kinds(ahead, api.EntryTable) > 0 {
			return api.ErrExtra
		}
		if code := against(len(e.Given), len(p.Parents)); code != api.OK {
			return code
		}
		for _, other := range ahead {
			if other.Kind == api.EntryRow && slices.Equal(other.Given, e.Given) {
				return api.ErrExtra
			}
		}
		return against(len(e.Numbers), values)
	}
	return api.ErrExtra
}

func entriesOf(f api.File) api.Errno {
	for _, p := range f.Probs {
		for _, e := range p.Entries {
			for _, number := range e.Numbers {
				x, code := expr.Eval(number)
				if code == api.ErrSyntax || code == api.ErrDeep {
					return code
				}
				if code == api.ErrZero || frac.Sign(x) < 0 || frac.Cmp(x, ratio(1, 1)) > 0 {
					return api.ErrEntry
				}
			}
		}
	}
	return api.OK
}

// numbersOf are what an entry's numbers come to.
func numbersOf(e api.Entry) []api.Rat {
	var out []api.Rat
	for _, number := range e.Numbers {
		x, _ := expr.Eval(number)
		out = append(out, x)
	}
	return out
}

func rowsOf(f api.File) api.Errno {
	for _, p := range f.Probs {
		_, values := rowsAndValues(f, p)
		for _, e := range p.Entries {
			numbers := numbersOf(e)
			for len(numbers) > 0 {
				if frac.Text(frac.Sum(numbers[:values]...)) != "1" {
					return api.ErrRow
				}
				numbers = numbers[values:]
			}
		}
	}
	return api.OK
}

func manyOf(f api.File) api.Errno {
	if len(f.Vars) > 1024 {
		return api.ErrMany
	}
	for _, p := range f.Probs {
		if rows, values := rowsAndValues(f, p); rows*values > 65536 {
			return api.ErrMany
		}
	}
	return api.OK
}

// netIn is the network of a file with which nothing is wrong.
func netIn(f api.File) api.Net {
	n := api.Net{Name: f.Name}
	for _, v := range f.Vars {
		p := f.Probs[blockOf(f, v.Name)]
		var parents []int
		choices := [][]string{nil}
		for _, name := range p.Parents {
			parents = append(parents, varOf(f, name))
			var longer [][]string
			for _, choice := range choices {
				for _, value := range f.Vars[varOf(f, name)].Values {
					longer = append(longer, append(slices.Clip(choice), value))
				}
			}
			choices = longer
		}
		n.Names = append(n.Names, v.Name)
		n.Values = append(n.Values, v.Values)
		n.Parents = append(n.Parents, parents)
		n.Tables = append(n.Tables, tableIn(p, choices))
	}
	return n
}

// tableIn is the table of a block, choice by choice of the parents' values.
func tableIn(p api.ProbDecl, choices [][]string) []api.Rat {
	if p.Entries[0].Kind == api.EntryTable {
		return numbersOf(p.Entries[0])
	}
	var table []api.Rat
	for _, choice := range choices {
		var row []api.Rat
		for _, e := range p.Entries {
			if e.Kind == api.EntryRow && slices.Equal(e.Given, choice) || e.Kind == api.EntryDefault && row == nil {
				row = numbersOf(e)
			}
		}
		table = append(table, row...)
	}
	return table
}
