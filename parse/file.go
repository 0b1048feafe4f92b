package parse

import (
	"credence/api"
	"credence/nat"
)

// file reads all parts of a file.
func (r *reader) file() api.File {
	r.want("network")
	f := api.File{Name: r.name()}
	r.want("{")
	f.Properties = r.properties()
	r.want("}")
	for {
		switch {
		case r.took("variable"):
			f.Vars = append(f.Vars, r.variable())
		case r.took("probability"):
			f.Probs = append(f.Probs, r.probability())
		default:
			return f
		}
	}
}

// properties reads those that stand there, if any do.
func (r *reader) properties() []string {
	var texts []string
	for r.took("property") {
		texts = append(texts, r.property())
	}
	return texts
}

// property reads one behind its first word.
func (r *reader) property() string {
	text := r.take(api.TokenText)
	r.want(";")
	return text
}

// variable reads one behind its first word.
func (r *reader) variable() api.VarDecl {
	v := api.VarDecl{Name: r.name()}
	r.want("{", "type", "discrete", "[")
	v.Count = r.count()
	r.want("]", "{")
	v.Values = list(r, r.name)
	r.want("}", ";")
	v.Properties = r.properties()
	r.want("}")
	return v
}

// count reads a number that is written as digits alone.
func (r *reader) count() api.Nat {
	word := r.words[0]
	count, e := nat.Parse(word.Text)
	if word.Kind != api.TokenNumber || e != api.OK {
		r.refuse(api.ErrSyntax)
		return nil
	}
	r.pass()
	return count
}

// probability reads one behind its first word.
func (r *reader) probability() api.ProbDecl {
	r.want("(")
	p := api.ProbDecl{Name: r.name()}
	if r.took("|") {
		p.Parents = list(r, r.name)
	}
	r.want(")", "{")
	for {
		switch {
		case r.took("property"):
			p.Properties = append(p.Properties, r.property())
		case r.took("table"):
			p.Entries = append(p.Entries, r.entry(api.EntryTable, nil))
		case r.took("default"):
			p.Entries = append(p.Entries, r.entry(api.EntryDefault, nil))
		case r.took("("):
			p.Entries = append(p.Entries, r.entry(api.EntryRow, r.given()))
		default:
			r.want("}")
			return p
		}
	}
}

// given reads an entry's names behind their opening bracket.
func (r *reader) given() []string {
	names := list(r, r.name)
	r.want(")")
	return names
}

// entry reads an entry behind what tells its kind.
func (r *reader) entry(kind int8, given []string) api.Entry {
	numbers := r.row()
	r.want(";")
	return api.Entry{Kind: kind, Given: given, Numbers: numbers}
}
