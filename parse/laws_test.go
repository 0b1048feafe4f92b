package parse_test

import (
	"strings"
	"testing"

	"credence/api"
	"credence/lex"
	"credence/parse"
)

// 7.3: what follows.

// place is a line and a column.
type place [2]int

// placeOf is the place of a byte, by what stands ahead of it.
func placeOf(text string, at int) place {
	ahead := text[:at]
	return place{strings.Count(ahead, "\n") + 1, at - strings.LastIndex(ahead, "\n")}
}

// offsetOf is the byte at a place.
func offsetOf(text string, p place) int {
	at := 0
	for range p[0] - 1 {
		at += strings.Index(text[at:], "\n") + 1
	}
	return at + p[1] - 1
}

// spread is a text with a filler ahead of each of its words, that of the end
// and one that lex refuses too, and where each place has gone to.
func spread(text, filler string) (string, map[place]place) {
	var wide strings.Builder
	moved := map[place]place{}
	at := 0
	for x, err := range lex.Each(text) {
		old := place{x.Line, x.Col}
		if err != nil {
			old = place{faultOf(err).Line, faultOf(err).Col}
		}
		wide.WriteString(text[at:offsetOf(text, old)] + filler)
		at = offsetOf(text, old)
		moved[old] = placeOf(wide.String(), wide.Len())
	}
	return wide.String() + text[at:], moved
}

// fillers are blanks, and comments with a blank ahead.
func fillers() []string {
	return []string{" ", "\t", "\n", "\r\n  ", " /**/", " /* 1, ( */ ", "\n/*\n*/", " // - (\n", "\r/* / * */// \" \n"}
}

// broken are texts that are no files, and no rows.
func broken() []string {
	var list []string
	g := newGrammar(grammarOfFiles)
	for _, text := range files() {
		for at := range len(text) {
			for _, word := range []string{" ] ", " 1e ", ` "\"" `} {
				// Within a text in quotes it may stand.
				if changed := text[:at] + word + text[at:]; g.judge("file", changed).Code != api.OK {
					list = append(list, changed)
				}
			}
		}
	}
	for _, text := range []string{"", "1,", "1 2", "1 +* 2", "(1", "1 2e", "1 /* a", "-)", "1 \"a\" 2", strings.Repeat("-(", 32) + "-1", strings.Repeat("- ", 65)} {
		list = append(list, text, "network n { } probability (a) { table "+text)
	}
	return list
}

// rows are texts that are rows.
func rows() []string {
	return []string{
		"1", "1, 0.5", "1 - 2 - 3", "1 - 2 * 3", "-(1 + 2) / -3", "((1)), --2, 3/4/5", "0.8, 1/5", "1e-3*(2+3),0,0,0",
		"1 // a\n, 2 // b", "/* , */ 7 /* ; */", strings.Repeat("-", 64) + "1", strings.Repeat("(", 64) + "1 - 2" + strings.Repeat(")", 64) + ", 3",
	}
}

func TestFillersInFiles(t *testing.T) {
	for _, text := range files() {
		want, err := parse.File(text)
		if err != nil {
			t.Fatalf("File(%q): %v", text, err)
		}
		for _, filler := range fillers() {
			wide, _ := spread(text, filler)
			checkFile(t, wide, want)
		}
	}
}

func TestFillersInRows(t *testing.T) {
	for _, text := range rows() {
		want := rowText(row(t, text))
		for _, filler := range fillers() {
			wide, _ := spread(text, filler)
			checkNumbers(t, wide, want)
		}
	}
}

// TestFillersInFaults: the fault is the same but for its place, which is where
// its word has gone to.
func TestFillersInFaults(t *testing.T) {
	for _, text := range broken() {
		_, ofFile := parse.File(text)
		_, ofRow := parse.Numbers(text)
		if ofFile == nil || ofRow == nil {
			t.Fatalf("%q is no broken text", text)
		}
		for _, filler := range fillers() {
			wide, moved := spread(text, filler)
			now := func(f api.Fault) api.Fault {
				p, ok := moved[place{f.Line, f.Col}]
				if !ok {
					t.Fatalf("%q: %v stands at no word", text, &f)
				}
				return fault(f.Code, p[0], p[1], f.Word)
			}
			checkNoFile(t, wide, now(faultOf(ofFile)))
			checkNoRow(t, wide, now(faultOf(ofRow)))
		}
	}
}

// upToFault is a text up to the word of a fault and with it.
func upToFault(text string, f api.Fault) string {
	at := offsetOf(text, place{f.Line, f.Col})
	own := len(f.Word)
	if text[at] == '"' {
		own = len(lex.Quote(f.Word))
	}
	return text[:at+own]
}

// TestBehindFaults: what stands behind the word of a fault does not matter.
func TestBehindFaults(t *testing.T) {
	count := 0
	for _, text := range broken() {
		for _, behind := range []string{"", "x", ".", "1e", "\"", "/*", ")", "} 1 ;", rain, strings.Repeat("(", 70), "\n\x00"} {
			_, err := parse.File(text)
			if f := faultOf(err); f.Word != "" && (f.Code == api.ErrSyntax || f.Code == api.ErrDeep) {
				checkNoFile(t, upToFault(text, f)+" "+behind, f)
				count++
			}
			_, err = parse.Numbers(text)
			if f := faultOf(err); f.Word != "" && (f.Code == api.ErrSyntax || f.Code == api.ErrDeep) {
				checkNoRow(t, upToFault(text, f)+" "+behind, f)
				count++
			}
		}
	}
	if count < 1000 {
		t.Errorf("%d texts alone", count)
	}
}

// lastPart is where the last part of a file begins, and where it ends.
func lastPart(text string) (int, int) {
	end := strings.LastIndex(text, "}") + 1
	return max(0, strings.LastIndex(text, "variable "), strings.LastIndex(text, "probability ")), end
}

// TestWithoutEnd: a file that ends somewhere within its last part is none.
func TestWithoutEnd(t *testing.T) {
	g := newGrammar(grammarOfFiles)
	for _, text := range append(files(), `network n { } variable x { type discrete [2] { u, v }; property "}"; }`) {
		first, end := lastPart(text)
		for at := first + 1; at < end; at++ {
			want := g.judge("file", text[:at])
			if want.Code == api.OK {
				t.Fatalf("%q is a file", text[:at])
			}
			checkNoFile(t, text[:at], want)
		}
		if _, err := parse.File(text[:end]); err != nil {
			t.Fatalf("%q: %v", text[:end], err)
		}
		if _, err := parse.File(text[:first]); first > 0 && err != nil {
			t.Fatalf("%q: %v", text[:first], err)
		}
	}
}

// TestRowsInFiles: a row is what Numbers says, in whatever entry it stands.
func TestRowsInFiles(t *testing.T) {
	for _, text := range rows() {
		want := api.File{Name: "n", Probs: []api.ProbDecl{{Name: "x", Entries: []api.Entry{
			{Kind: api.EntryTable, Numbers: row(t, text)},
			{Kind: api.EntryDefault, Numbers: row(t, text)},
			{Kind: api.EntryRow, Given: []string{"a", "b"}, Numbers: row(t, text)},
		}}}}
		checkFile(t, "network n { } probability (x) { table "+text+"\n; default "+text+"\n; (a, b) "+text+"\n; }", want)
	}
}
