package parse

import (
	"errors"

	"credence/api"
	"credence/lex"
)

// spoilt is the kind of a word that nobody takes.
const spoilt int8 = -1

// reader goes through the words of a text. Once a word can't be, none is taken
// any more: what is read from there on is of no account, and ends soon.
type reader struct {
	words []api.Token // the one at which the reader is, and those behind it
	wrong *api.Fault  // what lex says of the last word, if that is spoilt
	fault *api.Fault  // of the first word that can't be
	open  int         // how many unaries have begun, with a - or a bracket
	terms []api.Term  // of the sum that is read
}

// newReader is a reader at the beginning of a text.
func newReader(text string) *reader {
	r := &reader{}
	for word, err := range lex.Each(text) {
		// What lex finds wrong is told only if all words ahead of it can be.
		if errors.As(err, &r.wrong) {
			word.Kind = spoilt
		}
		r.words = append(r.words, word)
	}
	return r
}

// refuse says that the word can't be.
func (r *reader) refuse(code api.Errno) {
	if r.fault != nil {
		return
	}
	word := r.words[0]
	r.fault = r.wrong
	if word.Kind != spoilt {
		r.fault = &api.Fault{Code: code, Line: word.Line, Col: word.Col, Word: word.Text}
	}
	r.words = []api.Token{{Kind: spoilt}}
}

// at says whether the word is this sign or name.
func (r *reader) at(text string) bool {
	// A text in quotes may mean one, but is none.
	return r.words[0].Text == text && r.words[0].Kind != api.TokenText
}

// took takes the word, if it is this sign or name, and says whether it is.
func (r *reader) took(text string) bool {
	if !r.at(text) {
		return false
	}
	r.pass()
	return true
}

// pass goes to the next word. Nobody passes the word of the end.
func (r *reader) pass() { r.words = r.words[1:] }

// want takes signs and names that must stand there.
func (r *reader) want(texts ...string) {
	for _, text := range texts {
		if !r.took(text) {
			r.refuse(api.ErrSyntax)
		}
	}
}

// take takes a word that must be of this kind.
func (r *reader) take(kind int8) string {
	word := r.words[0]
	if word.Kind != kind {
		r.refuse(api.ErrSyntax)
		return ""
	}
	r.pass()
	return word.Text
}

// name takes a name: any, also one that means something elsewhere.
func (r *reader) name() string { return r.take(api.TokenName) }

// end says that nothing more may come.
func (r *reader) end() {
	if r.words[0].Kind != api.TokenEnd {
		r.refuse(api.ErrSyntax)
	}
}

// list is what item reads, once or more, with commas between.
func list[T any](r *reader, item func() T) []T {
	items := []T{item()}
	for r.took(",") {
		items = append(items, item())
	}
	return items
}
