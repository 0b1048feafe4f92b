package lex_test

import (
	"strings"
	"testing"

	"credence/lex"
)

// 6.3: Name and Quote.

func TestName(t *testing.T) {
	for s, want := range map[string]bool{
		"a1": true, "1a": false, "": false, strings.Repeat("a", 64): true, strings.Repeat("a", 65): false,
		"a": true, "_": true, "Z": true, "_0": true, "network": true, strings.Repeat("_", 63): true, "x" + strings.Repeat("9", 63): true, "x" + strings.Repeat("9", 64): false,
		"0": false, "a b": false, " a": false, "a ": false, "a\n": false, "a-b": false, "a.b": false, "é": false, "aé": false, "a\x00": false, `"a"`: false, "//": false, "a//": false, "a;": false,
		strings.Repeat("a", 1<<20): false, strings.Repeat("a", 63) + ".": false,
	} {
		if got := lex.Name(s); got != want {
			t.Errorf("Name(%.70q): %v", s, got)
		}
	}
}

// TestNameAsScanned: a name is what is scanned as one name and nothing else,
// without anything about it.
func TestNameAsScanned(t *testing.T) {
	for text := range texts(letters("aZ_09 .\"/\n\xff"), 4) {
		tokens, err := lex.Scan(text)
		want := err == nil && len(tokens) == 2 && tokens[0].Kind == 1 && tokens[0].Text == text
		if got := lex.Name(text); got != want {
			t.Fatalf("Name(%q): %v", text, got)
		}
	}
	for i := range 256 {
		b := string([]byte{byte(i)})
		within := strings.Contains("ABCDEFGHIJKLMNOPQRSTUVWXYZabcdefghijklmnopqrstuvwxyz_0123456789", b)
		ahead := within && !strings.Contains("0123456789", b)
		if lex.Name(b) != ahead || lex.Name("a"+b) != within || lex.Name("a"+b+"c") != within {
			t.Errorf("Name of %q, alone or within: %v %v %v", b, lex.Name(b), lex.Name("a"+b), lex.Name("a"+b+"c"))
		}
	}
}

func TestQuote(t *testing.T) {
	for s, want := range map[string]string{
		`a"b\c`: `"a\"b\\c"`, "": `""`, "\n": "",
		"a": `"a"`, `"`: `"\""`, `\`: `"\\"`, `\"`: `"\\\""`, `""`: `"\"\""`, `\n`: `"\\n"`, " ": `" "`,
		"a\n": "", "\na": "", "a\nb": "", "\"\n": "", "\r": "\"\r\"", "\t\xff\x00": "\"\t\xff\x00\"", "é": `"é"`, "/* // '": `"/* // '"`,
	} {
		if got := lex.Quote(s); got != want {
			t.Errorf("Quote(%q): %q, want %q", s, got, want)
		}
	}
}
