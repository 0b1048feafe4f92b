package samples

import (
	"slices"

	"credence/api"
)

// Rooms are all lists of which some things are made, by what is in them; lists
// that are in lists stand there too.
type Rooms struct {
	limbs   [][]uint32
	ints    [][]int
	texts   [][]string
	rats    [][]api.Rat
	terms   [][]api.Term
	boxes   [][]api.Box[api.Rat]
	vars    [][]api.VarDecl
	probs   [][]api.ProbDecl
	entries [][]api.Entry
	ofInts  [][][]int
	ofTexts [][][]string
	ofRats  [][][]api.Rat
	ofTerms [][][]api.Term
}

// Ints puts numbers in.
func (r *Rooms) Ints(list []int) { r.ints = append(r.ints, list) }

// Texts puts texts in.
func (r *Rooms) Texts(list []string) { r.texts = append(r.texts, list) }

// Rat puts a fraction in.
func (r *Rooms) Rat(a api.Rat) { r.limbs = append(r.limbs, a.Num.Mag, a.Den) }

// Rats puts fractions in.
func (r *Rooms) Rats(list []api.Rat) {
	r.rats = append(r.rats, list)
	for _, a := range list {
		r.Rat(a)
	}
}

// Net puts a network in.
func (r *Rooms) Net(n api.Net) {
	r.Texts(n.Names)
	r.ofTexts = append(r.ofTexts, n.Values)
	for _, values := range n.Values {
		r.Texts(values)
	}
	r.ofInts = append(r.ofInts, n.Parents)
	for _, parents := range n.Parents {
		r.Ints(parents)
	}
	r.ofRats = append(r.ofRats, n.Tables)
	for _, table := range n.Tables {
		r.Rats(table)
	}
}

// Boxes puts tables in.
func (r *Rooms) Boxes(list []api.Box[api.Rat]) {
	r.boxes = append(r.boxes, list)
	for _, b := range list {
		r.Ints(b.Scope)
		r.Ints(b.Sizes)
		r.Rats(b.Cells)
	}
}

// File puts a file in.
func (r *Rooms) File(f api.File) {
	r.Texts(f.Properties)
	r.vars = append(r.vars, f.Vars)
	for _, v := range f.Vars {
		r.limbs = append(r.limbs, v.Count)
		r.Texts(v.Values)
		r.Texts(v.Properties)
	}
	r.probs = append(r.probs, f.Probs)
	for _, p := range f.Probs {
		r.Texts(p.Parents)
		r.Texts(p.Properties)
		r.entriesOf(p)
	}
}

// entriesOf puts a block's entries in.
func (r *Rooms) entriesOf(p api.ProbDecl) {
	r.entries = append(r.entries, p.Entries)
	for _, e := range p.Entries {
		r.Texts(e.Given)
		r.ofTerms = append(r.ofTerms, e.Numbers)
		for _, l := range e.Numbers {
			r.terms = append(r.terms, l)
			for _, term := range l {
				r.Rat(term.Number)
			}
		}
	}
}

// Apart is whether no two of the lists have any room in common, spare room
// too.
func (r *Rooms) Apart() bool {
	return areApart(r.limbs) && areApart(r.ints) && areApart(r.texts) && areApart(r.rats) && areApart(r.terms) &&
		areApart(r.boxes) && areApart(r.vars) && areApart(r.probs) && areApart(r.entries) &&
		areApart(r.ofInts) && areApart(r.ofTexts) && areApart(r.ofRats) && areApart(r.ofTerms)
}

// areApart is whether no place is in two of some lists.
func areApart[T any](lists [][]T) bool {
	seen := map[*T]struct{}{}
	for _, list := range lists {
		room := list[:cap(list)]
		for i := range room {
			if _, before := seen[&room[i]]; before {
				return false
			}
			seen[&room[i]] = struct{}{}
		}
	}
	return true
}

// Roomy is a list in memory of its own with spare room behind it, in which
// something stands.
func Roomy[T any](list []T, spare T) []T {
	return slices.Concat(list, slices.Repeat([]T{spare}, roomBehind))[:len(list)]
}

// RoomyRat is a fraction of lists with spare room.
func RoomyRat(a api.Rat) api.Rat {
	return api.Rat{Num: api.Int{Neg: a.Num.Neg, Mag: Roomy(a.Num.Mag, 77)}, Den: Roomy(a.Den, 77)}
}

// RoomyRats are fractions, all in lists with spare room.
func RoomyRats(list []api.Rat) []api.Rat {
	out := Roomy(list, Ratio(7, 7))
	for i, a := range out {
		out[i] = RoomyRat(a)
	}
	return out
}

// RoomyNet is a network of lists with spare room.
func RoomyNet(n api.Net) api.Net {
	out := api.Net{Name: n.Name, Names: Roomy(n.Names, "spare"), Values: Roomy(n.Values, []string{"spare"}), Parents: Roomy(n.Parents, []int{77}), Tables: Roomy(n.Tables, Even(1))}
	for v, values := range out.Values {
		out.Values[v] = Roomy(values, "spare")
	}
	for v, parents := range out.Parents {
		out.Parents[v] = Roomy(parents, 77)
	}
	for v, table := range out.Tables {
		out.Tables[v] = RoomyRats(table)
	}
	return out
}

// RoomyFile is a file of lists with spare room.
func RoomyFile(f api.File) api.File {
	out := api.File{Name: f.Name, Properties: Roomy(f.Properties, "spare"), Vars: Roomy(f.Vars, api.VarDecl{Name: "spare"}), Probs: Roomy(f.Probs, api.ProbDecl{Name: "spare"})}
	for i, v := range out.Vars {
		out.Vars[i] = api.VarDecl{Name: v.Name, Count: Roomy(v.Count, 77), Values: Roomy(v.Values, "spare"), Properties: Roomy(v.Properties, "spare")}
	}
	for i, p := range out.Probs {
		q := api.ProbDecl{Name: p.Name, Parents: Roomy(p.Parents, "spare"), Entries: Roomy(p.Entries, api.Entry{Kind: 77}), Properties: Roomy(p.Properties, "spare")}
		for j, e := range q.Entries {
			q.Entries[j] = api.Entry{Kind: e.Kind, Given: Roomy(e.Given, "spare"), Numbers: roomyNumbers(e.Numbers)}
		}
		out.Probs[i] = q
	}
	return out
}

// roomyNumbers are expressions, all in lists with spare room.
func roomyNumbers(numbers [][]api.Term) [][]api.Term {
	out := Roomy(numbers, Terms("7"))
	for i, l := range out {
		out[i] = Roomy(l, Whole(7))
		for j, term := range out[i] {
			out[i][j].Number = RoomyRat(term.Number)
		}
	}
	return out
}
