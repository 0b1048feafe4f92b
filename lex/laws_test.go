package lex_test

import (
	"slices"
	"strings"
	"testing"

	"credence/api"
	"credence/lex"
)

// 6.4, and texts of all kinds, held against a reader by regular expressions.

func TestShortTexts(t *testing.T) {
	f := newForms()
	for _, c := range []struct {
		pieces []string
		most   int
	}{
		{letters("a1.e+-/*\"\\ \n;\xc3"), 4},
		{letters("10.eE+-x"), 5},
		{letters("/*\n a"), 7},
		{letters("\"\\a\n"), 7},
		{[]string{"1e", "1000", "1001", "0", "+", "-", ".5", "a"}, 4},
		{[]string{strings.Repeat("a", 32), strings.Repeat("9", 32), "_", " "}, 5},
	} {
		for text := range texts(c.pieces, c.most) {
			tokens, wrong := f.read(text)
			check(t, text, tokens, wrong)
		}
	}
}

// scanned are the tokens of a text that is well.
func scanned(t *testing.T, text string) words {
	t.Helper()
	tokens, err := lex.Scan(text)
	if err != nil {
		t.Fatalf("Scan(%q): %v", text, err)
	}
	return tokens
}

// TestOwnBytes: each token's own bytes stand at its place, and between two of
// them nothing but blanks and comments.
func TestOwnBytes(t *testing.T) {
	f := newForms()
	for _, text := range longer() {
		at := 0
		for _, x := range scanned(t, text) {
			place := offsetOf(text, x.Line, x.Col)
			for at < place {
				at += max(len(f.nothing.FindString(text[at:])), 1)
			}
			if at != place || !strings.HasPrefix(text[at:], ownBytes(x)) {
				t.Fatalf("%q: %v is not at its place", text, x)
			}
			at += len(ownBytes(x))
		}
		if at != len(text) {
			t.Fatalf("%q: the end is at %d", text, at)
		}
	}
}

// spread is a text with a filler ahead of each of its tokens, that of the end
// too, and the tokens at their new places.
func spread(text string, tokens words, filler string) (string, words) {
	var wide strings.Builder
	moved := slices.Clone(tokens)
	at := 0
	for i, x := range tokens {
		place := offsetOf(text, x.Line, x.Col)
		wide.WriteString(text[at:place] + filler)
		at = place
		moved[i].Line, moved[i].Col = placeOf(wide.String(), wide.Len())
	}
	return wide.String() + text[at:], moved
}

func TestFillers(t *testing.T) {
	for _, text := range longer() {
		tokens := scanned(t, text)
		for _, filler := range []string{" ", "\t", "\r", "\n", "\r\n \t", " /**/", " /* a */", "\n/*\n*/", " //\n", "\t// a \"\n", "\r/* / * ** // \" 1e */// . \n"} {
			wide, moved := spread(text, tokens, filler)
			check(t, wide, moved, api.Fault{})
		}
	}
}

// TestFillersApart: tokens that touch one another are the same with a blank
// between, as long as they may touch.
func TestFillersApart(t *testing.T) {
	parts := []string{"a", "_1", "7", "1.5e3", `"x\"y"`, "(", "/", "*", "-", ";"}
	for _, first := range parts {
		for _, second := range parts {
			one, two := scanned(t, first), scanned(t, second)
			apart := scanned(t, first+" "+second)
			if len(apart) != 3 || apart[0] != one[0] || apart[1].Text != two[0].Text || apart[1].Kind != two[0].Kind || apart[1].Col != len(first)+2 {
				t.Errorf("%q and %q: %v", first, second, apart)
			}
		}
	}
}

func TestQuotedIsScanned(t *testing.T) {
	checkQuoted := func(s string) {
		t.Helper()
		quoted := lex.Quote(s)
		if strings.Contains(s, "\n") {
			if quoted != "" {
				t.Fatalf("Quote(%q): %q", s, quoted)
			}
			return
		}
		checkTokens(t, quoted, token(3, s, 1, 1))
		check(t, "a"+quoted+quoted+";", words{
			token(1, "a", 1, 1), token(3, s, 1, 2), token(3, s, 1, 2+len(quoted)),
			token(4, ";", 1, 2+2*len(quoted)), token(0, "", 1, 3+2*len(quoted)),
		}, api.Fault{})
		if want := ownBytes(token(3, s, 1, 1)); quoted != want {
			t.Fatalf("Quote(%q): %q, want %q", s, quoted, want)
		}
	}
	for s := range texts(letters("\"\\a\n/"), 5) {
		checkQuoted(s)
	}
	for i := range 256 {
		b := string([]byte{byte(i)})
		checkQuoted(b)
		checkQuoted("x" + b + `"` + b + `\`)
	}
	checkQuoted(strings.Repeat(`a\"`, 10000))
}
