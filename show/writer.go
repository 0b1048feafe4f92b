package show

import (
	"strings"

	"credence/api"
	"credence/lex"
	"credence/nat"
)

// writer puts a file's text together. Once something is wrong, what is
// written from there on is of no account.
type writer struct {
	text strings.Builder
	code api.Errno // of the first thing that is wrong
}

// refuse says that something is wrong with what comes next in the text.
func (w *writer) refuse(code api.Errno) {
	if w.code == api.OK {
		w.code = code
	}
}

// write puts pieces behind the text.
func (w *writer) write(pieces ...string) {
	for _, piece := range pieces {
		w.text.WriteString(piece)
	}
}

// list writes each of some items, with commas between; there must be one.
func list[T any](w *writer, items []T, item func(T)) {
	if len(items) == 0 {
		w.refuse(api.ErrSyntax)
	}
	for i, x := range items {
		if i > 0 {
			w.write(", ")
		}
		item(x)
	}
}

// name writes a name.
func (w *writer) name(name string) {
	if !lex.Name(name) {
		w.refuse(api.ErrSyntax)
	}
	w.write(name)
}

// expression writes an expression.
func (w *writer) expression(l []api.Term) {
	text, code := Terms(l)
	w.refuse(code)
	w.write(text)
}

// file writes all parts of a file.
func (w *writer) file(f api.File) {
	w.write("network ")
	w.name(f.Name)
	w.write(" {\n")
	w.properties(f.Properties)
	w.write("}\n")
	for _, v := range f.Vars {
		w.variable(v)
	}
	for _, p := range f.Probs {
		w.probability(p)
	}
}

// properties writes a line for each.
func (w *writer) properties(texts []string) {
	for _, text := range texts {
		quoted := lex.Quote(text)
		if quoted == "" {
			w.refuse(api.ErrText)
		}
		w.write("  property ", quoted, ";\n")
	}
}

// variable writes a variable.
func (w *writer) variable(v api.VarDecl) {
	w.write("variable ")
	w.name(v.Name)
	w.write(" {\n  type discrete [", nat.Text(v.Count), "] { ")
	list(w, v.Values, w.name)
	w.write(" };\n")
	w.properties(v.Properties)
	w.write("}\n")
}

// probability writes a variable's probabilities.
func (w *writer) probability(p api.ProbDecl) {
	w.write("probability (")
	w.name(p.Name)
	if len(p.Parents) > 0 {
		w.write(" | ")
		list(w, p.Parents, w.name)
	}
	w.write(") {\n")
	for _, e := range p.Entries {
		w.entry(e)
	}
	w.properties(p.Properties)
	w.write("}\n")
}

// entry writes a line of numbers.
func (w *writer) entry(e api.Entry) {
	switch e.Kind {
	case api.EntryTable:
		w.write("  table ")
	case api.EntryDefault:
		w.write("  default ")
	case api.EntryRow:
		w.write("  (")
		list(w, e.Given, w.name)
		w.write(") ")
	default:
		w.refuse(api.ErrSyntax)
	}
	list(w, e.Numbers, w.expression)
	w.write(";\n")
}
