package lex

import (
	"strings"

	"credence/api"
)

// reader is a text that has been gone through up to some place.
type reader struct {
	text  string
	at    int // the byte at this place
	line  int // its line
	start int // where its line begins
}

// next is the next word, or the fault that stands in its place.
func (r *reader) next() (api.Token, error) {
	if !r.skip() {
		return r.fault(api.ErrText, r.at+len(open))
	}
	if r.at == len(r.text) {
		return r.token(api.TokenEnd, r.at, "")
	}
	switch kindOf(r.text[r.at]) {
	case letter:
		return r.name()
	case digit:
		return r.number()
	case quote:
		return r.quoted()
	case sign:
		return r.taken(api.TokenSign, r.at+1)
	}
	return r.fault(api.ErrByte, r.at+1)
}

// The comments' beginnings, and the end of the longer ones.
const (
	slashes = "//"
	open    = "/*"
	shut    = "*/"
)

// skip goes past blanks and comments; false, if it stops at a comment that is
// not closed.
func (r *reader) skip() bool {
	for {
		rest := r.text[r.at:]
		switch {
		case kindOf(byteAt(rest, 0)) == blank:
			r.move(1)
		case strings.HasPrefix(rest, slashes):
			line, _, _ := strings.Cut(rest, "\n")
			r.move(len(line))
		case strings.HasPrefix(rest, open):
			inside, _, closed := strings.Cut(rest[len(open):], shut)
			if !closed {
				return false
			}
			r.move(len(open) + len(inside) + len(shut))
		default:
			return true
		}
	}
}

// move goes past some bytes, which may end lines.
func (r *reader) move(count int) {
	passed := r.text[r.at : r.at+count]
	if last := strings.LastIndexByte(passed, '\n'); last >= 0 {
		r.line += strings.Count(passed, "\n")
		r.start = r.at + last + 1
	}
	r.at += count
}

// col is the column at which the reader is.
func (r *reader) col() int { return r.at - r.start + 1 }

// taken is the word up to end, as it stands, behind which the reader goes on.
func (r *reader) taken(kind int8, end int) (api.Token, error) {
	// A copy, since a piece of the text would keep all of it.
	return r.token(kind, end, strings.Clone(r.text[r.at:end]))
}

// token is the word up to end and what it means. No word goes past its line,
// so the line stays.
func (r *reader) token(kind int8, end int, means string) (api.Token, error) {
	token := api.Token{Kind: kind, Text: means, Line: r.line, Col: r.col()}
	r.at = end
	return token, nil
}

// fault is a fault of the bytes up to end.
func (r *reader) fault(code api.Errno, end int) (api.Token, error) {
	word := strings.Clone(r.text[r.at:end])
	return api.Token{}, &api.Fault{Code: code, Line: r.line, Col: r.col(), Word: word}
}
