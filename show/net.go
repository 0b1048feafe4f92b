package show

import (
	"slices"

	"credence/api"
	"credence/frac"
	"credence/nat"
)

// shaped is whether the lists of a network fit one another.
func shaped(n api.Net) bool {
	count := len(n.Names)
	if len(n.Values) != count || len(n.Parents) != count || len(n.Tables) != count {
		return false
	}
	for v := range n.Names {
		if !full(n, v) {
			return false
		}
	}
	return true
}

// full is whether a variable's table has a fraction for each choice of its
// parents' values and its own.
func full(n api.Net, v int) bool {
	// What the sizes make may be more than an int holds: the table is divided
	// by them instead.
	left := len(n.Tables[v])
	for _, p := range append(slices.Clone(n.Parents[v]), v) {
		if p < 0 || p >= len(n.Values) || len(n.Values[p]) == 0 || left%len(n.Values[p]) != 0 {
			return false
		}
		left /= len(n.Values[p])
	}
	return left == 1
}

// fileOf is a network as a file.
func fileOf(n api.Net) api.File {
	f := api.File{Name: n.Name}
	for v, name := range n.Names {
		values := n.Values[v]
		f.Vars = append(f.Vars, api.VarDecl{Name: name, Count: nat.Of(uint64(len(values))), Values: values})
		f.Probs = append(f.Probs, probabilityOf(n, v))
	}
	return f
}

// probabilityOf is a variable's table as it is declared.
func probabilityOf(n api.Net, v int) api.ProbDecl {
	p := api.ProbDecl{Name: n.Names[v]}
	for _, parent := range n.Parents[v] {
		p.Parents = append(p.Parents, n.Names[parent])
	}
	row := 0
	for numbers := range slices.Chunk(n.Tables[v], len(n.Values[v])) {
		e := api.Entry{Kind: api.EntryTable}
		if len(p.Parents) > 0 {
			e = api.Entry{Kind: api.EntryRow, Given: given(n, v, row)}
		}
		for _, a := range numbers {
			e.Numbers = append(e.Numbers, termsOf(a))
		}
		p.Entries = append(p.Entries, e)
		row++
	}
	return p
}

// given are the names of the values that a variable's parents have in a row
// of its table.
func given(n api.Net, v, row int) []string {
	names := make([]string, len(n.Parents[v]))
	for i, parent := range slices.Backward(n.Parents[v]) {
		values := n.Values[parent]
		names[i] = values[row%len(values)]
		row /= len(values)
	}
	return names
}

// termsOf is a fraction as an expression without fractions.
func termsOf(a api.Rat) []api.Term {
	// The sum of one number is that number in lowest terms; over 1, if it is
	// over 0.
	a = frac.Sum(a)
	terms := []api.Term{numberOf(a.Num.Mag)}
	if a.Num.Neg {
		terms = append(terms, api.Term{Kind: api.TermNeg})
	}
	if nat.Cmp(a.Den, nat.Of(1)) != 0 {
		terms = append(terms, numberOf(a.Den), api.Term{Kind: api.TermOver})
	}
	return terms
}

// numberOf is a natural number as a term.
func numberOf(a api.Nat) api.Term {
	return api.Term{Kind: api.TermNumber, Number: api.Rat{Num: api.Int{Mag: a}, Den: nat.Of(1)}}
}
