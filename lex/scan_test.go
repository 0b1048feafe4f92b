package lex_test

import (
	"strings"
	"testing"

	"credence/api"
)

// 6.1, and of 6.2 that Each tells what Scan does: both are looked at by check.

func TestExamplesOfTokens(t *testing.T) {
	checkTokens(t, "")
	checkTokens(t, "ab1 _x", token(1, "ab1", 1, 1), token(1, "_x", 1, 5))
	check(t, "a\n\"x\\\"y\"; // so", words{token(1, "a", 1, 1), token(3, `x"y`, 2, 1), token(4, ";", 2, 7), token(0, "", 2, 14)}, api.Fault{})
	check(t, "1/2/*3*/|4", words{token(2, "1", 1, 1), token(4, "/", 1, 2), token(2, "2", 1, 3), token(4, "|", 1, 9), token(2, "4", 1, 10), token(0, "", 1, 11)}, api.Fault{})
	checkTokens(t, "1e1000", token(2, "1e1000", 1, 1))
	checkTokens(t, "1e00099", token(2, "1e00099", 1, 1))
}

// TestEnd: the token of the end stands behind the last byte, whatever that is.
func TestEnd(t *testing.T) {
	for text, place := range map[string][2]int{
		"": {1, 1}, " ": {1, 2}, "\n": {2, 1}, "\n\n": {3, 1}, "\r\n": {2, 1}, "\n \t": {2, 3}, "\r": {1, 2},
		"//": {1, 3}, "//\n": {2, 1}, "// a": {1, 5}, "/**/": {1, 5}, "/*\n*/": {2, 3}, "/*\n\n */ ": {3, 5},
	} {
		check(t, text, words{token(0, "", place[0], place[1])}, api.Fault{})
	}
}

// TestBytes: each byte by itself.
func TestBytes(t *testing.T) {
	for i := range 256 {
		text := string([]byte{byte(i)})
		switch {
		case strings.Contains(" \t\n\r", text):
			checkTokens(t, text)
		case strings.Contains(signs, text):
			checkTokens(t, text, token(4, text, 1, 1))
		case strings.Contains("ABCDEFGHIJKLMNOPQRSTUVWXYZabcdefghijklmnopqrstuvwxyz_", text):
			checkTokens(t, text, token(1, text, 1, 1))
		case strings.Contains("0123456789", text):
			checkTokens(t, text, token(2, text, 1, 1))
		case text == `"`:
			checkFault(t, text, fault(api.ErrText, 1, 1, `"`))
		default:
			checkFault(t, text, fault(api.ErrByte, 1, 1, text))
		}
	}
}

// TestBytesBehind: each byte right behind a name, a number and a sign.
func TestBytesBehind(t *testing.T) {
	f := newForms()
	for i := range 256 {
		for _, ahead := range []string{"a", "7", "=", "a1", "1.5", "1e5", "//", "/*", "*", `"`, `"\`, `""`} {
			for _, behind := range []string{"", "0", "z", `"`, "*/"} {
				text := ahead + string([]byte{byte(i)}) + behind
				tokens, wrong := f.read(text)
				check(t, text, tokens, wrong)
			}
		}
	}
}

func TestNames(t *testing.T) {
	for _, name := range []string{"a", "_", "__", "A9", "a_b_1", "Z", "network", "e", "E5", "e_1", "x0123456789", strings.Repeat("a", 63), strings.Repeat("_", 64)} {
		checkTokens(t, name, token(1, name, 1, 1))
		checkTokens(t, "\n "+name+";", token(1, name, 2, 2), token(4, ";", 2, 2+len(name)))
	}
	checkTokens(t, "a-b", token(1, "a", 1, 1), token(4, "-", 1, 2), token(1, "b", 1, 3))
}

func TestNumbers(t *testing.T) {
	for _, number := range []string{
		"0", "7", "007", "1234567890", "0.0", "1.5", "00.50", "3.14159",
		"1e5", "1E5", "1e+5", "1e-5", "1E+05", "1E-0", "1.5e3", "2.50E-03", "0e0",
		"1e1000", "1e+1000", "1e-1000", "1E1000", "1e0001000", "1e-00000000000000000000000000001000", "1e999", "0.1e-999", "1e0",
		strings.Repeat("9", 3000), "0." + strings.Repeat("3", 3000), "1e" + strings.Repeat("0", 3000) + "12",
	} {
		checkTokens(t, number, token(2, number, 1, 1))
		checkTokens(t, " "+number+",", token(2, number, 1, 2), token(4, ",", 1, 2+len(number)))
		checkTokens(t, number+"/"+number, token(2, number, 1, 1), token(4, "/", 1, 1+len(number)), token(2, number, 1, 2+len(number)))
	}
	checkTokens(t, "-1", token(4, "-", 1, 1), token(2, "1", 1, 2))
	checkTokens(t, "1e5+3", token(2, "1e5", 1, 1), token(4, "+", 1, 4), token(2, "3", 1, 5))
	checkTokens(t, "1e5-", token(2, "1e5", 1, 1), token(4, "-", 1, 4))
	checkTokens(t, "1 e5", token(2, "1", 1, 1), token(1, "e5", 1, 3))
	checkTokens(t, `1"a"2`, token(2, "1", 1, 1), token(3, "a", 1, 2), token(2, "2", 1, 5))
}

func TestTexts(t *testing.T) {
	for _, c := range []struct{ text, means string }{
		{`""`, ""}, {`"a"`, "a"}, {`" a b "`, " a b "}, {`"\""`, `"`}, {`"\\"`, `\`}, {`"\\\""`, `\"`}, {`"\"\\"`, `"\`}, {`"x\"y"`, `x"y`},
		{`"// a"`, "// a"}, {`"/* a"`, "/* a"}, {`"'"`, "'"}, {"\"\t\r\x00\xff\"", "\t\r\x00\xff"}, {`"é"`, "é"}, {`"{}"`, "{}"},
		{`"` + strings.Repeat("ab ", 2000) + `"`, strings.Repeat("ab ", 2000)},
		{`"` + strings.Repeat(`\\\"`, 2000) + `"`, strings.Repeat(`\"`, 2000)},
	} {
		checkTokens(t, c.text, token(3, c.means, 1, 1))
		checkTokens(t, c.text+c.text+"a", token(3, c.means, 1, 1), token(3, c.means, 1, 1+len(c.text)), token(1, "a", 1, 1+2*len(c.text)))
	}
}

func TestComments(t *testing.T) {
	a, b := token(1, "a", 1, 1), func(line, col int) api.Token { return token(1, "b", line, col) }
	for text, place := range map[string][2]int{
		"a/**/b": {1, 6}, "a/***/b": {1, 7}, "a/****/b": {1, 8}, "a/*/*/b": {1, 7}, "a/*//*/b": {1, 8}, "a/* * / */b": {1, 11}, "a/*\"*/b": {1, 7},
		"a/*\n*/b": {2, 3}, "a/*\n\n\n*/b": {4, 3}, "a/*x\ny*/ b": {2, 5}, "a/*\xff\x00.*/b": {1, 9}, "a/*1e*//*\n*/b": {2, 3},
		"a//\nb": {2, 1}, "a// /* x\nb": {2, 1}, "a//\r\nb": {2, 1}, "a///\n//\n b": {3, 2}, "a//\"\n\tb": {2, 2}, "a//\xff.1e\nb": {2, 1},
	} {
		checkTokens(t, text, a, b(place[0], place[1]))
	}
	checkTokens(t, "a//b", a)
	checkTokens(t, "a//b\rc", a)
	checkTokens(t, "a/*b*/", a)
	checkTokens(t, "a/ /b", a, token(4, "/", 1, 2), token(4, "/", 1, 4), b(1, 5))
	checkTokens(t, "a*/b", a, token(4, "*", 1, 2), token(4, "/", 1, 3), b(1, 4))
	checkTokens(t, "a/ *b", a, token(4, "/", 1, 2), token(4, "*", 1, 4), b(1, 5))
	checkTokens(t, "a/**/*/b", a, token(4, "*", 1, 6), token(4, "/", 1, 7), b(1, 8))
	checkTokens(t, "///*\n*/", token(4, "*", 2, 1), token(4, "/", 2, 2))
}

// TestPlaces: columns are bytes; a byte 0A alone ends a line.
func TestPlaces(t *testing.T) {
	checkTokens(t, "\ta", token(1, "a", 1, 2))
	checkTokens(t, "\r\ra\n\r a", token(1, "a", 1, 3), token(1, "a", 2, 3))
	checkTokens(t, "\"é\" a", token(3, "é", 1, 1), token(1, "a", 1, 6))
	checkTokens(t, "/*é*/a", token(1, "a", 1, 7))
	checkTokens(t, strings.Repeat("\n", 1000)+strings.Repeat(" ", 1000)+"a", token(1, "a", 1001, 1001))
}
