package lex_test

import (
	"errors"
	"iter"
	"regexp"
	"slices"
	"strconv"
	"strings"
	"testing"

	"credence/api"
	"credence/lex"
)

// signs are all signs.
const signs = "{}()[],;|=+-*/"

// words are tokens, a row each.
type words = []api.Token

// token is a token by its parts, as the chapter's examples write it.
func token(kind int8, text string, line, col int) api.Token {
	return api.Token{Kind: kind, Text: text, Line: line, Col: col}
}

// fault is a fault by its parts.
func fault(code api.Errno, line, col int, word string) api.Fault {
	return api.Fault{Code: code, Line: line, Col: col, Word: word}
}

// faultOf is the fault of an error: the one without a code, if there is none.
func faultOf(err error) api.Fault {
	var f *api.Fault
	if !errors.As(err, &f) || f == nil {
		return api.Fault{}
	}
	return *f
}

// collected is what an iterator gives, step by step; a fault is told as what
// it says, not as where it is kept.
func collected(each iter.Seq2[api.Token, error]) []step {
	var steps []step
	for x, err := range each {
		steps = append(steps, step{x, err == nil, faultOf(err)})
	}
	return steps
}

// step is what an iterator gives at once.
type step struct {
	token api.Token
	well  bool
	fault api.Fault
}

// check holds Scan and Each against the tokens that they should tell, and
// against the fault behind these: none, if it has no code.
func check(t *testing.T, text string, tokens words, wrong api.Fault) {
	t.Helper()
	var steps []step
	for _, x := range tokens {
		steps = append(steps, step{token: x, well: true})
	}
	if wrong.Code != api.OK {
		steps = append(steps, step{fault: wrong})
		tokens = nil
	}
	got, err := lex.Scan(text)
	if !slices.Equal(got, tokens) || faultOf(err) != wrong || (err == nil) != (wrong.Code == api.OK) {
		t.Fatalf("Scan(%.200q): %v, %v, want %v, %v", text, got, err, tokens, wrong)
	}
	if got := collected(lex.Each(text)); !slices.Equal(got, steps) {
		t.Fatalf("Each(%.200q): %v, want %v", text, got, steps)
	}
}

// checkTokens holds a text that is well against its tokens but that of the
// end, which stands behind the last byte.
func checkTokens(t *testing.T, text string, tokens ...api.Token) {
	t.Helper()
	line, col := placeOf(text, len(text))
	check(t, text, append(tokens, token(0, "", line, col)), api.Fault{})
}

// checkFault holds a text with a fault right at its first word against it.
func checkFault(t *testing.T, text string, wrong api.Fault) {
	t.Helper()
	check(t, text, nil, wrong)
}

// placeOf is the line and the column of a byte, by what stands ahead of it.
func placeOf(text string, at int) (int, int) {
	ahead := text[:at]
	return strings.Count(ahead, "\n") + 1, at - strings.LastIndex(ahead, "\n")
}

// offsetOf is the byte at a line and a column.
func offsetOf(text string, line, col int) int {
	at := 0
	for range line - 1 {
		at += strings.Index(text[at:], "\n") + 1
	}
	return at + col - 1
}

// ownBytes are the bytes of a token as they stand in a text.
func ownBytes(x api.Token) string {
	if x.Kind == api.TokenText {
		return `"` + strings.NewReplacer(`\`, `\\`, `"`, `\"`).Replace(x.Text) + `"`
	}
	return x.Text
}

// forms are what may begin at a place, in the order in which they are tried:
// those by regular expressions are held against those by hand.
type forms struct {
	nothing, name, number, tail, text *regexp.Regexp
}

// newForms are the forms of the chapter's table.
func newForms() forms {
	return forms{
		nothing: regexp.MustCompile(`^(?s:[ \t\n\r]|//[^\n]*|/\*.*?\*/)`),
		name:    regexp.MustCompile(`^[A-Za-z_][A-Za-z_0-9]*`),
		number:  regexp.MustCompile(`^[0-9]+(?:\.[0-9]+)?(?:[eE][+-]?([0-9]+))?`),
		tail:    regexp.MustCompile(`^[A-Za-z_0-9]*`),
		text:    regexp.MustCompile(`^"((?:[^"\\\n]|\\["\\])*)"`),
	}
}

// read are the tokens of a text, and the fault behind them.
func (f forms) read(text string) (words, api.Fault) {
	var tokens words
	for at := 0; at < len(text); {
		rest := text[at:]
		if length := len(f.nothing.FindString(rest)); length > 0 {
			at += length
			continue
		}
		line, col := placeOf(text, at)
		kind, length, means, code := f.first(rest)
		if code != api.OK {
			return tokens, fault(code, line, col, rest[:length])
		}
		tokens = append(tokens, token(kind, means, line, col))
		at += length
	}
	line, col := placeOf(text, len(text))
	return append(tokens, token(0, "", line, col)), api.Fault{}
}

// first is what begins a text that begins neither with a blank nor with a
// whole comment: its kind, its bytes, what it means, and what is wrong with it.
func (f forms) first(rest string) (kind int8, length int, means string, code api.Errno) {
	if name := f.name.FindString(rest); name != "" {
		if len(name) > 64 {
			return 0, len(name), "", api.ErrByte
		}
		return api.TokenName, len(name), name, api.OK
	}
	if number := f.number.FindStringSubmatch(rest); number != nil {
		length := len(number[0])
		tail := len(f.tail.FindString(rest[length:]))
		if exponent, err := strconv.Atoi("0" + number[1]); tail > 0 || err != nil || exponent > 1000 {
			return 0, length + tail, "", api.ErrNumber
		}
		return api.TokenNumber, length, number[0], api.OK
	}
	if text := f.text.FindStringSubmatch(rest); text != nil {
		return api.TokenText, len(text[0]), strings.NewReplacer(`\\`, `\`, `\"`, `"`).Replace(text[1]), api.OK
	}
	switch {
	case strings.HasPrefix(rest, "/*"):
		return 0, 2, "", api.ErrText
	case rest[0] == '"':
		return 0, 1, "", api.ErrText
	case strings.IndexByte(signs, rest[0]) >= 0:
		return api.TokenSign, 1, rest[:1], api.OK
	}
	return 0, 1, "", api.ErrByte
}

// texts goes over all texts of up to most of some pieces.
func texts(pieces []string, most int) iter.Seq[string] {
	return func(yield func(string) bool) {
		var grow func(text string, left int) bool
		grow = func(text string, left int) bool {
			if !yield(text) {
				return false
			}
			for _, piece := range pieces {
				if left > 0 && !grow(text+piece, left-1) {
					return false
				}
			}
			return true
		}
		grow("", most)
	}
}

// letters are the bytes of a text, each as a text.
func letters(text string) []string {
	var list []string
	for at := range len(text) {
		list = append(list, text[at:at+1])
	}
	return list
}

// longer are texts that have all kinds of tokens in them, none of them wrong.
func longer() []string {
	return []string{
		"",
		"a",
		"ab1 _x",
		"network rain { property \"a small one\"; }\nvariable rain { type discrete [2] { no, yes }; }",
		"probability (grass | rain) {\n  (no) 9/10, 1/10;\n  default (1 - 0.9), 0.9;\n}\n",
		"use order(a, b); ask x=y|z=w; // so\r\n/* and\n so */ all q;",
		"1.5e-3*2E+07/3e1000-00.00",
		"\"\"\"a\\\"b\\\\c\"\"\t\xff\x00\"",
		"a\"b\"1\"c\"(d)e{f}1 a[2]=+-*/",
		strings.Repeat("\n\t _9 ", 5) + strings.Repeat("z", 64),
	}
}
