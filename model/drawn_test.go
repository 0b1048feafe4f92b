package model_test

import (
	"math/rand"
	"slices"

	"credence/api"
	"credence/nat"
	"credence/radix"
	"credence/samples"
)

// writer writes networks as files in all ways in which one may be told.
type writer struct{ *rand.Rand }

// number is an expression that comes to a fraction.
func (w writer) number(a api.Rat) []api.Term {
	l := []api.Term{samples.Number(a)}
	switch w.Intn(6) {
	case 0:
		return append(l, terms("n n")...)
	case 1:
		return append(terms("1"), append(append(terms("1"), append(l, terms("-")...)...), terms("-")...)...)
	case 2:
		return append(l, terms("6 * 4 2 + /")...)
	}
	return l
}

// numbers are expressions that come to some fractions.
func (w writer) numbers(row []api.Rat) [][]api.Term {
	var out [][]api.Term
	for _, a := range row {
		out = append(out, w.number(a))
	}
	return out
}

// some are a few texts or none.
func (w writer) some() []string {
	return []string{"p", "q", "p"}[:w.Intn(4)]
}

// entries are those of a variable's table: itself, or rows without any order,
// of which a default may stand for some that are alike.
func (w writer) entries(n api.Net, v int) []api.Entry {
	table, width := n.Tables[v], len(n.Values[v])
	if w.Intn(3) == 0 {
		return []api.Entry{{Kind: api.EntryTable, Given: w.some(), Numbers: w.numbers(table)}}
	}
	var sizes []int
	for _, parent := range n.Parents[v] {
		sizes = append(sizes, len(n.Values[parent]))
	}
	var rows []api.Entry
	chosen := w.Intn(len(table) / width)
	other := table[chosen*width : chosen*width+width]
	standard := w.Intn(2) == 0
	for at, digits := range radix.All(sizes) {
		row := table[at*width : at*width+width]
		if standard && slices.EqualFunc(row, other, samples.SameLimbs) && w.Intn(4) > 0 {
			continue
		}
		e := api.Entry{Kind: api.EntryRow, Numbers: w.numbers(row)}
		for i, digit := range digits {
			e.Given = append(e.Given, n.Values[n.Parents[v][i]][digit])
		}
		rows = append(rows, e)
	}
	if standard {
		rows = append(rows, api.Entry{Kind: api.EntryDefault, Given: w.some(), Numbers: w.numbers(other)})
	}
	w.Shuffle(len(rows), func(i, j int) { rows[i], rows[j] = rows[j], rows[i] })
	return rows
}

// file is a network as a file.
func (w writer) file(n api.Net) api.File {
	f := api.File{Name: n.Name, Properties: w.some()}
	for v, name := range n.Names {
		count := append(nat.Of(uint64(len(n.Values[v]))), make([]uint32, w.Intn(2))...)
		f.Vars = append(f.Vars, api.VarDecl{Name: name, Count: count, Values: slices.Clone(n.Values[v]), Properties: w.some()})
		p := api.ProbDecl{Name: name, Entries: w.entries(n, v), Properties: w.some()}
		for _, parent := range n.Parents[v] {
			p.Parents = append(p.Parents, n.Names[parent])
		}
		f.Probs = append(f.Probs, p)
	}
	w.Shuffle(len(f.Probs), func(i, j int) { f.Probs[i], f.Probs[j] = f.Probs[j], f.Probs[i] })
	return f
}

// net is a network of so many variables.
func (w writer) net(count int) api.Net {
	return drawnNet(w, samples.DrawnParents(w, count, 1+w.Intn(2), false), 3)
}

// someName is one of those that the networks have, or one that they don't.
func (w writer) someName() string {
	return []string{"x0", "x1", "x2", "x3", "v0", "v1", "v2", "z"}[w.Intn(8)]
}

// someNumber is one that may be, or may not.
func (w writer) someNumber() []api.Term {
	return terms([]string{"0", "1", "1/2", "1 n", "2", "0 0 /", "1 0 /", "", "1 +", "1 2", "k7", "1 2 /", "1/3", "1" + " n n n n n n n n n n n n n n n n n n n n n n n n n n n n n n n n n n n n n n n n n n n n n n n n n n n n n n n n n n n n n n n n n"}[w.Intn(14)])
}

// spoil does something to a file, wherever it is.
func (w writer) spoil(f *api.File) {
	if len(f.Vars) == 0 || w.Intn(3) == 0 {
		spoilList(w, &f.Vars, w.variable)
		return
	}
	spoilList(w, &f.Probs, w.block)
}

// spoilList puts something out of a list, in twice, elsewhere, or spoils it.
func spoilList[T any](w writer, list *[]T, spoil func(*T)) {
	if len(*list) == 0 {
		var x T
		spoil(&x)
		*list = []T{x}
		return
	}
	l := slices.Clone(*list)
	i, j := w.Intn(len(l)), w.Intn(len(l)+1)
	switch w.Intn(8) {
	case 0:
		l = slices.Delete(l, i, i+1)
	case 1:
		l = slices.Insert(l, j, l[i])
	case 2:
		j = min(j, len(l)-1)
		l[i], l[j] = l[j], l[i]
	default:
		spoil(&l[i])
	}
	*list = l
}

// variable spoils a variable.
func (w writer) variable(v *api.VarDecl) {
	switch w.Intn(3) {
	case 0:
		v.Name = w.someName()
	case 1:
		v.Count = nat.Of(uint64(w.Intn(4)))
	default:
		spoilList(w, &v.Values, w.name)
	}
}

// name spoils a name.
func (w writer) name(name *string) { *name = w.someName() }

// block spoils a block.
func (w writer) block(p *api.ProbDecl) {
	switch w.Intn(6) {
	case 0:
		p.Name = w.someName()
	case 1, 2:
		spoilList(w, &p.Parents, w.name)
	default:
		spoilList(w, &p.Entries, w.entry)
	}
}

// entry spoils an entry.
func (w writer) entry(e *api.Entry) {
	switch w.Intn(4) {
	case 0:
		e.Kind = int8(w.Intn(5))
	case 1:
		spoilList(w, &e.Given, w.name)
	default:
		spoilList(w, &e.Numbers, func(l *[]api.Term) { *l = w.someNumber() })
	}
}
