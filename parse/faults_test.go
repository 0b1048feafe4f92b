package parse_test

import (
	"errors"
	"math/rand"
	"strings"
	"testing"

	"credence/api"
	"credence/lex"
	"credence/parse"
)

// 7.2: the fault.

func TestExamplesOfFaultsOfRows(t *testing.T) {
	checkNoRow(t, "", fault(api.ErrSyntax, 1, 1, ""))
	checkNoRow(t, "1,", fault(api.ErrSyntax, 1, 3, ""))
	checkNoRow(t, "1 2", fault(api.ErrSyntax, 1, 3, "2"))
	checkNoRow(t, "1 +* 2", fault(api.ErrSyntax, 1, 4, "*"))
	checkNoRow(t, "(1", fault(api.ErrSyntax, 1, 3, ""))
	checkNoRow(t, strings.Repeat("-", 65)+"1", fault(api.ErrDeep, 1, 65, "-"))
	checkNoRow(t, strings.Repeat("(", 65)+"1"+strings.Repeat(")", 65), fault(api.ErrDeep, 1, 65, "("))
	checkNoRow(t, "1 2e", fault(api.ErrNumber, 1, 3, "2e"))
}

func TestExamplesOfFaultsOfFiles(t *testing.T) {
	checkNoFile(t, "", fault(api.ErrSyntax, 1, 1, ""))
	checkNoFile(t, "network", fault(api.ErrSyntax, 1, 8, ""))
	checkNoFile(t, "net n", fault(api.ErrSyntax, 1, 1, "net"))
	checkNoFile(t, "network 1", fault(api.ErrSyntax, 1, 9, "1"))
	checkNoFile(t, "network n { } variable x { type discrete [2.0] { a }; }", fault(api.ErrSyntax, 1, 43, "2.0"))
	checkNoFile(t, "network n { } variable x { type discrete [2] { }; }", fault(api.ErrSyntax, 1, 48, "}"))
	checkNoFile(t, "network n { } probability () { }", fault(api.ErrSyntax, 1, 28, ")"))
	checkNoFile(t, "network n { } probability (a) { (b) 1; tab 1; }", fault(api.ErrSyntax, 1, 40, "tab"))
}

func TestFaultsOfFiles(t *testing.T) {
	for text, want := range map[string]api.Fault{
		"network n { } network m { }":                       fault(api.ErrSyntax, 1, 15, "network"),
		"network n { } }":                                   fault(api.ErrSyntax, 1, 15, "}"),
		"network n { };":                                    fault(api.ErrSyntax, 1, 14, ";"),
		"network n {\n property a; }":                       fault(api.ErrSyntax, 2, 11, "a"),
		"network n {\n property \"a\" }":                    fault(api.ErrSyntax, 2, 15, "}"),
		"network n { \"property\" \"a\"; }":                 fault(api.ErrSyntax, 1, 13, "property"),
		"\"network\" n { }":                                 fault(api.ErrSyntax, 1, 1, "network"),
		"Network n { }":                                     fault(api.ErrSyntax, 1, 1, "Network"),
		"network \"n\" { }":                                 fault(api.ErrSyntax, 1, 9, "n"),
		"network n \"{\" }":                                 fault(api.ErrSyntax, 1, 11, "{"),
		"network n { } variable x { type discrete [1e1]":    fault(api.ErrSyntax, 1, 43, "1e1"),
		"network n { } variable x { type discrete [\"2\"]":  fault(api.ErrSyntax, 1, 43, "2"),
		"network n { } variable x { type discrete [-2]":     fault(api.ErrSyntax, 1, 43, "-"),
		"network n { } variable x { type discrete [a]":      fault(api.ErrSyntax, 1, 43, "a"),
		"network n { } variable x { type discrete []":       fault(api.ErrSyntax, 1, 43, "]"),
		"network n { } variable x { type discrete [":        fault(api.ErrSyntax, 1, 43, ""),
		"network n { } variable x { type discrete [1 2]":    fault(api.ErrSyntax, 1, 45, "2"),
		"network n { } variable x { type discrete [2]{a,}":  fault(api.ErrSyntax, 1, 48, "}"),
		"network n { } variable x { type discrete [2]{a b":  fault(api.ErrSyntax, 1, 48, "b"),
		"network n { } variable x { type discrete [2]{a} }": fault(api.ErrSyntax, 1, 49, "}"),
		"network n { } variable x { type continuous":        fault(api.ErrSyntax, 1, 33, "continuous"),
		"network n { } variable x { }":                      fault(api.ErrSyntax, 1, 28, "}"),
		"network n { } probability (a | )":                  fault(api.ErrSyntax, 1, 32, ")"),
		"network n { } probability (a, b)":                  fault(api.ErrSyntax, 1, 29, ","),
		"network n { } probability (a | b | c)":             fault(api.ErrSyntax, 1, 34, "|"),
		"network n { } probability (a) { table ; }":         fault(api.ErrSyntax, 1, 39, ";"),
		"network n { } probability (a) { table 1 }":         fault(api.ErrSyntax, 1, 41, "}"),
		"network n { } probability (a) { table (1; }":       fault(api.ErrSyntax, 1, 41, ";"),
		"network n { } probability (a) { table 1, ; }":      fault(api.ErrSyntax, 1, 42, ";"),
		"network n { } probability (a) { () 1; }":           fault(api.ErrSyntax, 1, 34, ")"),
		"network n { } probability (a) { (1) 1; }":          fault(api.ErrSyntax, 1, 34, "1"),
		"network n { } probability (a) { 1; }":              fault(api.ErrSyntax, 1, 33, "1"),
		"network n { } probability (a) { \"table\" 1; }":    fault(api.ErrSyntax, 1, 33, "table"),
		"network n { } probability (a) { table x; }":        fault(api.ErrSyntax, 1, 39, "x"),
		"network n { } probability (a) { table 1;":          fault(api.ErrSyntax, 1, 41, ""),
		"network n { } probability a":                       fault(api.ErrSyntax, 1, 27, "a"),
		"network n { }\n\x01":                               fault(api.ErrByte, 2, 1, "\x01"),
		"network n { property \"a":                          fault(api.ErrText, 1, 22, `"`),
		"network n { } // x\n /* y":                         fault(api.ErrText, 2, 2, "/*"),
		"network " + strings.Repeat("x", 65) + " 1":         fault(api.ErrByte, 1, 9, strings.Repeat("x", 65)),
	} {
		checkNoFile(t, text, want)
	}
}

// TestFirstFault: what can't be comes first, be it for lex or here.
func TestFirstFault(t *testing.T) {
	for wrong, code := range map[string]api.Errno{".": api.ErrByte, "1e": api.ErrNumber, "1e1001": api.ErrNumber, `"`: api.ErrText, "/*": api.ErrText} {
		checkNoRow(t, "1 2 "+wrong, fault(api.ErrSyntax, 1, 3, "2"))
		checkNoRow(t, "1 "+wrong, fault(code, 1, 3, wrong))
		checkNoRow(t, "1 + "+wrong+" 2", fault(code, 1, 5, wrong))
		checkNoRow(t, wrong, fault(code, 1, 1, wrong))
		checkNoRow(t, strings.Repeat("(", 65)+wrong, fault(api.ErrDeep, 1, 65, "("))
		checkNoRow(t, strings.Repeat("(", 64)+wrong, fault(code, 1, 65, wrong))
		checkNoFile(t, "net "+wrong, fault(api.ErrSyntax, 1, 1, "net"))
		checkNoFile(t, "network "+wrong, fault(code, 1, 9, wrong))
		checkNoFile(t, "network n { } "+wrong, fault(code, 1, 15, wrong))
		checkNoFile(t, wrong, fault(code, 1, 1, wrong))
	}
}

func TestDeep(t *testing.T) {
	open, shut, strokes := strings.Repeat("(", 64), strings.Repeat(")", 64), strings.Repeat("-", 64)
	neg := strings.Repeat(" neg", 64)
	checkNumbers(t, open+"1"+shut, "1")
	checkNumbers(t, open+"1 - 2 * 3 + 4"+shut, "1 2 3 * - 4 +")
	checkNumbers(t, strokes+"1 - "+strokes+"2, "+strokes+"3", "1"+neg+" 2"+neg+" -; 3"+neg)
	checkNumbers(t, strings.Repeat("-(", 32)+"1"+strings.Repeat(")", 32), "1"+strings.Repeat(" neg", 32))
	checkNumbers(t, open+"1"+shut+"*"+open+"2"+shut, "1 2 *")
	checkNumbers(t, open[1:]+"1 + (2) * -3 - (4)"+shut[1:], "1 2 3 neg * + 4 -")
	for ahead, word := range map[string]string{
		open + "1 - ":                     "-",
		open + "1 + ":                     "(",
		open + "1 * ":                     "(",
		open + "1 / ":                     "-",
		strings.Repeat("-(", 32):          "-",
		strings.Repeat("-(", 32) + "1-":   "(",
		open[1:] + "1 - -":                "-",
		open[1:] + "1 - (":                "-",
		open[1:] + "(1) - (2) + -":        "(",
		"1, " + strokes:                   "(",
		open + "1" + shut + "-" + strokes: "-",
	} {
		checkNoRow(t, ahead+word+"1", fault(api.ErrDeep, 1, len(ahead)+1, word))
		checkNoRow(t, ahead+word, fault(api.ErrDeep, 1, len(ahead)+1, word))
		for _, other := range []string{")", "*", "+", ",", "a", ";", "["} {
			checkNoRow(t, ahead+other, fault(api.ErrSyntax, 1, len(ahead)+1, other))
		}
		checkNoRow(t, ahead, fault(api.ErrSyntax, 1, len(ahead)+1, ""))
	}
	for _, kind := range []string{"table ", "default ", "(b) "} {
		text := "network n { } probability (a) { " + kind
		checkNoFile(t, text+strokes+"-1; }", fault(api.ErrDeep, 1, len(text)+65, "-"))
		checkNoFile(t, text+"1, "+open+"(", fault(api.ErrDeep, 1, len(text)+68, "("))
		if _, err := parse.File(text + strokes + "1, " + open + "1" + shut + "; }"); err != nil {
			t.Errorf("64 deep in a file: %v", err)
		}
	}
}

// TestVeryDeep: neither the depth nor the length of what can't be matters.
func TestVeryDeep(t *testing.T) {
	for _, word := range []string{"-", "("} {
		checkNoRow(t, strings.Repeat(word, 1<<20), fault(api.ErrDeep, 1, 65, word))
	}
}

// TestDeepByChance: rows that are about 64 deep, held against the grammar.
func TestDeepByChance(t *testing.T) {
	g := newGrammar(grammarOfFiles)
	source := rand.New(rand.NewSource(64))
	deep := 0
	for range 3000 {
		text := strings.Repeat([]string{"(", "-", "-("}[source.Intn(3)], 20+source.Intn(50))
		for range source.Intn(30) {
			text += []string{"(", "-", "1", "1)", "1 - ", "1)-", " * ", "(1)", "-1+", "1/", ")"}[source.Intn(11)]
		}
		if open := strings.Count(text, "(") - strings.Count(text, ")"); open > 0 && source.Intn(2) == 0 {
			text += "1" + strings.Repeat(")", open)
		}
		if g.judge("row", text).Code == api.ErrDeep {
			deep++
		}
		checkRow(t, g, text)
	}
	if deep < 300 || deep > 2700 {
		t.Errorf("%d of the rows are too deep", deep)
	}
}

// checkAny holds any text against the grammar: whether it is a file, and the
// fault if it is none.
func checkAny(t *testing.T, g grammar, text string) {
	t.Helper()
	if want := g.judge("file", text); want.Code != api.OK {
		checkNoFile(t, text, want)
		return
	}
	if got, err := parse.File(text); err != nil || got.Name == "" {
		t.Fatalf("File(%.500q): %v", text, err)
	}
}

// words are a text's words as they stand.
func words(t *testing.T, text string) []string {
	t.Helper()
	var list []string
	for x, err := range lex.Each(text) {
		switch {
		case err != nil:
			t.Fatalf("%q: %v", text, err)
		case x.Kind == api.TokenText:
			list = append(list, lex.Quote(x.Text))
		case x.Kind != api.TokenEnd:
			list = append(list, x.Text)
		}
	}
	return list
}

// TestChangedFiles: files with a word left out, put in, or in the place of
// another, each word at each place; and those that end behind a word.
func TestChangedFiles(t *testing.T) {
	g := newGrammar(grammarOfFiles)
	wrong := append(others(), "1e", ".", "/*", `"`, strings.Repeat("a", 65), "1 /**/ 2", "- 1", "( 1 )")
	for _, text := range files() {
		list := words(t, text)
		for i := range len(list) + 1 {
			ahead, behind := strings.Join(list[:i], " "), strings.Join(list[i:], " ")
			checkAny(t, g, ahead)
			checkAny(t, g, ahead+"\n")
			without := strings.Join(list[min(i+1, len(list)):], " ")
			checkAny(t, g, ahead+" "+without)
			for _, word := range wrong {
				checkAny(t, g, ahead+"\n "+word+"\n"+behind)
				checkAny(t, g, ahead+" "+word+" "+without)
				checkAny(t, g, ahead+" "+word)
			}
		}
	}
}

// TestCutFiles: files that end behind any byte, and that begin with any.
func TestCutFiles(t *testing.T) {
	g := newGrammar(grammarOfFiles)
	for _, text := range files() {
		for at := range len(text) {
			checkAny(t, g, text[:at])
			checkAny(t, g, text[at:])
			checkAny(t, g, text[:at]+text[at+1:])
		}
	}
}

// TestBytesInFiles: each byte at each place of a file.
func TestBytesInFiles(t *testing.T) {
	g := newGrammar(grammarOfFiles)
	const text = `network n{property "a";}variable x{type discrete[2]{u,v};}probability(x|y){table 1-2;(u)3;}`
	for at := range len(text) {
		for b := range 256 {
			checkAny(t, g, text[:at]+string([]byte{byte(b)})+text[at+1:])
		}
	}
}

// TestShortFiles: all texts of a few words.
func TestShortFiles(t *testing.T) {
	g := newGrammar(grammarOfFiles)
	for text := range texts(others(), 2) {
		checkAny(t, g, text)
		checkAny(t, g, "network n { "+text)
		checkAny(t, g, "network n { } "+text)
		checkAny(t, g, "network n { } variable x { type discrete [2] { a "+text)
		checkAny(t, g, "network n { } probability (a "+text)
		checkAny(t, g, "network n { } probability (a) { "+text)
		checkAny(t, g, "network n { } probability (a) { table 1 "+text)
	}
}

// TestFaultsAsErrors: a fault is a *api.Fault, whose number is found in it.
func TestFaultsAsErrors(t *testing.T) {
	_, ofFile := parse.File("network n\n { ]")
	_, ofRow := parse.Numbers("1\n + ]")
	for _, err := range []error{ofFile, ofRow} {
		if f, ok := err.(*api.Fault); !ok || *f != fault(api.ErrSyntax, 2, 4, "]") {
			t.Errorf("%T, %v", err, err)
		}
		if !errors.Is(err, api.ErrSyntax) || errors.Is(err, api.ErrDeep) {
			t.Errorf("%v is not its number", err)
		}
	}
	_, err := parse.Numbers(strings.Repeat("-", 65))
	if !errors.Is(err, api.ErrDeep) || err.Error() != "1:65: error 31: -" {
		t.Errorf("%v", err)
	}
}
