package parse_test

import (
	"strings"

	"credence/api"
	"credence/lex"
)

// The grammar of DOC.md's 'Files', word by word: what is read by hand is held
// against what these lines say when all ways through them are followed at once.
const grammarOfFiles = `
    file        = "network" NAME "{" { property } "}" { variable | probability }
    property    = "property" TEXT ";"
    variable    = "variable" NAME "{" "type" "discrete" "[" NUMBER "]" "{" NAME { "," NAME } "}" ";" { property } "}"
    probability = "probability" "(" NAME [ "|" NAME { "," NAME } ] ")" "{" { entry | property } "}"
    entry       = "table" row ";"  |  "default" row ";"  |  "(" NAME { "," NAME } ")" row ";"
    row         = sum { "," sum }
    sum         = product { ( "+" | "-" ) product }
    product     = unary { ( "*" | "/" ) unary }
    unary       = NUMBER | "-" unary | "(" sum ")"
`

// node is a piece of the grammar.
type node struct {
	kind  nodeKind
	text  string  // of a word, a kind of words, a rule's name
	rule  string  // the rule in which it stands
	count bool    // of NUMBER: whether it stands between [ and ]
	parts []*node // of the others
}

type nodeKind int

const (
	isWord nodeKind = iota // a word in quotes
	isKind                 // NAME, TEXT, NUMBER
	isRule                 // another rule
	isRow                  // one part behind the other
	isOne                  // one of the parts
	isSome                 // the part any number of times
	isMay                  // the part or nothing
	isShut                 // the end of a unary
)

// grammar are the rules by their names.
type grammar map[string]*node

// newGrammar reads the rules.
func newGrammar(text string) grammar {
	g := grammar{}
	for line := range strings.Lines(text) {
		if fields := strings.Fields(line); len(fields) > 2 {
			body, _ := choice(fields[2:], fields[0])
			g[fields[0]] = body
		}
	}
	return g
}

// choice reads rows with | between, up to a closing bracket or the end.
func choice(fields []string, rule string) (*node, []string) {
	one := &node{kind: isOne, rule: rule}
	row := &node{kind: isRow, rule: rule}
	for len(fields) > 0 {
		field := fields[0]
		fields = fields[1:]
		var part *node
		switch field {
		case "}", "]", ")":
			one.parts = append(one.parts, row)
			return one, fields
		case "|":
			one.parts = append(one.parts, row)
			row = &node{kind: isRow, rule: rule}
			continue
		case "{", "[", "(":
			part, fields = choice(fields, rule)
			kind := map[string]nodeKind{"{": isSome, "[": isMay, "(": isRow}[field]
			part = &node{kind: kind, rule: rule, parts: []*node{part}}
		default:
			part = leaf(field, rule)
		}
		row.parts = append(row.parts, part)
	}
	one.parts = append(one.parts, row)
	return one, nil
}

// leaf is a piece without parts.
func leaf(field, rule string) *node {
	switch {
	case strings.HasPrefix(field, `"`):
		return &node{kind: isWord, text: strings.Trim(field, `"`), rule: rule}
	case field == strings.ToUpper(field):
		return &node{kind: isKind, text: field, rule: rule, count: rule == "variable"}
	}
	return &node{kind: isRule, text: field, rule: rule}
}

// way is what is still to come on one way through the grammar.
type way struct {
	first *node
	rest  *way
	shuts int // how many ends of unaries are in it
}

// ahead puts a piece ahead of a way.
func (w *way) ahead(n *node) *way {
	shuts := 0
	if w != nil {
		shuts = w.shuts
	}
	if n.kind == isShut {
		shuts++
	}
	return &way{n, w, shuts}
}

// begun are the ways of a way that each begin with a word or a kind of words;
// nil is the way with nothing on it.
func (g grammar) begun(w *way) []*way {
	if w == nil {
		return []*way{nil}
	}
	switch n := w.first; n.kind {
	case isShut:
		return g.begun(w.rest)
	case isRule:
		rest := w.rest
		if n.text == "unary" {
			rest = rest.ahead(&node{kind: isShut})
		}
		return g.begun(rest.ahead(g[n.text]))
	case isRow:
		rest := w.rest
		for i := len(n.parts) - 1; i >= 0; i-- {
			rest = rest.ahead(n.parts[i])
		}
		return g.begun(rest)
	case isOne:
		var all []*way
		for _, part := range n.parts {
			all = append(all, g.begun(w.rest.ahead(part))...)
		}
		return all
	case isSome:
		return append(g.begun(w.rest), g.begun(w.ahead(n.parts[0]))...)
	case isMay:
		return append(g.begun(w.rest), g.begun(w.rest.ahead(n.parts[0]))...)
	}
	return []*way{w}
}

// fits is whether a token may be what a way begins with.
func (n *node) fits(x api.Token) bool {
	switch {
	case n.kind == isWord:
		return (x.Kind == api.TokenName || x.Kind == api.TokenSign) && x.Text == n.text
	case n.text == "NAME":
		return x.Kind == api.TokenName
	case n.text == "TEXT":
		return x.Kind == api.TokenText
	}
	return x.Kind == api.TokenNumber && (!n.count || strings.Trim(x.Text, "0123456789") == "")
}

// tooDeep is whether what a way begins with is a - or a bracket that begins a
// unary within 64 others.
func (w *way) tooDeep() bool {
	n := w.first
	return n.kind == isWord && n.rule == "unary" && n.text != ")" && w.shuts-1 >= 64
}

// judge is the first fault of a text that should be a rule's; the one without
// a code, if it is.
func (g grammar) judge(rule, text string) api.Fault {
	ways := []*way{(*way)(nil).ahead(&node{kind: isRule, text: rule})}
	for x, err := range lex.Each(text) {
		if err != nil {
			return faultOf(err)
		}
		code := api.ErrSyntax
		var next []*way
		for _, w := range ways {
			for _, b := range g.begun(w) {
				switch {
				case x.Kind == api.TokenEnd && b == nil:
					return api.Fault{}
				case b == nil || x.Kind == api.TokenEnd || !b.first.fits(x):
				case b.tooDeep():
					code = api.ErrDeep
				default:
					next = append(next, b.rest)
				}
			}
		}
		if len(next) == 0 {
			return fault(code, x.Line, x.Col, x.Text)
		}
		ways = next
	}
	panic("no token of the end")
}
