package model

import (
	"slices"

	"credence/api"
	"credence/dag"
	"credence/radix"
)

// A network is judged by its parts, one behind the other: each judge relies on
// what those ahead of it have found well.
type network api.Net

// lists judges how many lists there are.
func (n network) lists() api.Errno {
	vars := len(n.Names)
	if len(n.Values) != vars || len(n.Parents) != vars || len(n.Tables) != vars {
		return api.ErrShape
	}
	if vars > api.MaxVars {
		return api.ErrMany
	}
	return api.OK
}

// names judges the names of variables and values.
func (n network) names() api.Errno {
	vars := roll{}
	for v, values := range n.Values {
		_, once := rollOf(values)
		if !once || !vars.enter(n.Names[v]) {
			return api.ErrTwice
		}
		if len(values) == 0 {
			return api.ErrMissing
		}
	}
	return api.OK
}

// parents judges who hangs on whom.
func (n network) parents() api.Errno { return dag.Check(n.Parents) }

// tables judges how long the tables are.
func (n network) tables() api.Errno {
	sizes := Sizes(api.Net(n))
	for v, table := range n.Tables {
		must := count(picked(sizes, n.family(v)))
		if must > api.MaxCells {
			return api.ErrMany
		}
		if len(table) != must {
			return api.ErrShape
		}
	}
	return api.OK
}

// entries judges each number by itself.
func (n network) entries() api.Errno {
	for _, table := range n.Tables {
		if !areChances(table) {
			return api.ErrEntry
		}
	}
	return api.OK
}

// rows judges the numbers of each row together.
func (n network) rows() api.Errno {
	for v, table := range n.Tables {
		if !areWhole(table, len(n.Values[v])) {
			return api.ErrRow
		}
	}
	return api.OK
}

// family are the variables of a variable's table, as its digits go: its
// parents, and then itself.
func (n network) family(v int) []int { return append(slices.Clone(n.Parents[v]), v) }

// cell is what a variable's table says where all variables have some values.
func (n network) cell(v int, sizes, values []int) api.Rat {
	family := n.family(v)
	at, _ := radix.At(picked(sizes, family), picked(values, family))
	return n.Tables[v][at]
}

// box is a variable's table as a factor. Its variables are put in order, and so
// its cells change their places.
func (n network) box(v int, sizes []int) api.Box[api.Rat] {
	family := n.family(v)
	scope := slices.Sorted(slices.Values(family))
	strides := stridesOf(family, sizes)
	box := api.Box[api.Rat]{Scope: scope, Sizes: picked(sizes, scope)}
	for _, values := range radix.All(box.Sizes) {
		from := 0
		for i, x := range scope {
			from += values[i] * strides[x]
		}
		box.Cells = append(box.Cells, normal(n.Tables[v][from]))
	}
	return box
}

// stridesOf are how far apart a table's cells are where one of its variables
// has neighbouring values.
func stridesOf(family, sizes []int) map[int]int {
	strides := map[int]int{}
	apart := 1
	for _, v := range slices.Backward(family) {
		strides[v] = apart
		apart *= sizes[v]
	}
	return strides
}
