package lex_test

import (
	"runtime"
	"slices"
	"strings"
	"testing"

	"credence/api"
	"credence/lex"
)

// R3, R5: answers are new memory, and keep nothing of what was handed in.

// long is how many bytes the texts here have: enough to be seen among all that
// is held.
const long = 1 << 24

// heap is how many bytes are held.
func heap() int {
	runtime.GC()
	var now runtime.MemStats
	runtime.ReadMemStats(&now)
	return int(now.HeapAlloc)
}

// TestTextIsNotKept: what is answered of a long text does not hold the text.
func TestTextIsNotKept(t *testing.T) {
	for what, call := range map[string]func(text string) any{
		"Scan": func(text string) any { l, err := lex.Scan("a 1 \"b\" ; /*" + text + "*/ z"); return []any{l, err} },
		"Each": func(text string) any {
			for x, err := range lex.Each("name /*" + text) {
				return []any{x, err}
			}
			return nil
		},
		"ErrByte":   func(text string) any { _, err := lex.Scan("//" + text + "\n."); return err },
		"ErrNumber": func(text string) any { _, err := lex.Scan("//" + text + "\n1e"); return err },
		"ErrText":   func(text string) any { _, err := lex.Scan("/*" + text); return err },
	} {
		before := heap()
		got := call(strings.Repeat("x", long))
		if held := heap() - before; held > long/2 {
			t.Errorf("%s holds %d bytes", what, held)
		}
		runtime.KeepAlive(got)
	}
}

func TestListsApart(t *testing.T) {
	for _, text := range longer() {
		first, second := scanned(t, text), scanned(t, text)
		want := slices.Clone(second)
		first = first[:cap(first)]
		for i := range first {
			first[i] = api.Token{Kind: 9, Text: "ink"}
		}
		if !slices.Equal(second, want) || !slices.Equal(scanned(t, text), want) {
			t.Errorf("Scan(%q): two answers share memory", text)
		}
	}
}

// TestLongTexts: long texts of one kind each end, and soon.
func TestLongTexts(t *testing.T) {
	const count = 1 << 20
	for _, c := range []struct {
		text   string
		tokens int
		code   api.Errno
	}{
		{strings.Repeat(" ", count), 1, api.OK},
		{strings.Repeat("\n", count), 1, api.OK},
		{strings.Repeat("a ", count), count + 1, api.OK},
		{strings.Repeat("1,", count), 2*count + 1, api.OK},
		{strings.Repeat("/**/", count), 1, api.OK},
		{strings.Repeat("//\n", count), 1, api.OK},
		{strings.Repeat(`"\\"`, count), count + 1, api.OK},
		{strings.Repeat("/* ", count) + "*/", 1, api.OK},
		{strings.Repeat("/ ", count), count + 1, api.OK},
		{strings.Repeat("7", count), 2, api.OK},
		{"1e" + strings.Repeat("0", count), 2, api.OK},
		{"1e" + strings.Repeat("9", count), 0, api.ErrNumber},
		{strings.Repeat("a", count), 0, api.ErrByte},
		{`"` + strings.Repeat(`\"`, count), 0, api.ErrText},
		{strings.Repeat("/ ", count) + "/*", 0, api.ErrText},
	} {
		tokens, err := lex.Scan(c.text)
		if len(tokens) != c.tokens || faultOf(err).Code != c.code {
			t.Errorf("Scan(%.20q..): %d tokens, %v", c.text, len(tokens), faultOf(err).Code)
		}
	}
	if got := lex.Quote(strings.Repeat(`"`, count)); len(got) != 2*count+2 {
		t.Errorf("Quote of many: %d bytes", len(got))
	}
}
