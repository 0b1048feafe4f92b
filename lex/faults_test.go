package lex_test

import (
	"errors"
	"strings"
	"testing"

	"credence/api"
	"credence/lex"
)

// 6.1: the table 'Errors'.

func TestExamplesOfFaults(t *testing.T) {
	ahead := words{token(2, "1.5e-3", 1, 1), token(4, ",", 1, 7)}
	check(t, "1.5e-3,2.e1", append(ahead, token(2, "2", 1, 8)), fault(api.ErrByte, 1, 9, "."))
	check(t, "1.5e-3,2e", ahead, fault(api.ErrNumber, 1, 8, "2e"))
	checkFault(t, "/*/", fault(api.ErrText, 1, 1, "/*"))
	checkFault(t, `"a`, fault(api.ErrText, 1, 1, `"`))
	checkFault(t, `"a\n"`, fault(api.ErrText, 1, 1, `"`))
	checkFault(t, "1e-1001", fault(api.ErrNumber, 1, 1, "1e-1001"))
	checkFault(t, "12ab_3c", fault(api.ErrNumber, 1, 1, "12ab_3c"))
	checkFault(t, "é", fault(api.ErrByte, 1, 1, "\xc3"))
	check(t, "a.b", words{token(1, "a", 1, 1)}, fault(api.ErrByte, 1, 2, "."))
}

// checkBehind holds a text that is wrong against its fault, by itself and
// behind others, and with more behind it where the fault says so.
func checkBehind(t *testing.T, text string, code api.Errno, word string) {
	t.Helper()
	checkFault(t, text, fault(code, 1, 1, word))
	checkFault(t, "\r\n\n \t"+text, fault(code, 3, 3, word))
	checkFault(t, "/*\n*/"+text, fault(code, 2, 3, word))
	check(t, "a = "+text, words{token(1, "a", 1, 1), token(4, "=", 1, 3)}, fault(code, 1, 5, word))
	check(t, "\n;"+text, words{token(4, ";", 2, 1)}, fault(code, 2, 2, word))
}

func TestBytesThatBeginNothing(t *testing.T) {
	for _, c := range []string{"\x00", "\x0b", "\x0c", "\x1f", "\x7f", "\x80", "\xff", "!", "#", "$", "%", "&", "'", ".", ":", "<", ">", "?", "@", `\`, "^", "`", "~"} {
		checkBehind(t, c, api.ErrByte, c)
		checkBehind(t, c+"1 b", api.ErrByte, c)
	}
	checkBehind(t, "€", api.ErrByte, "\xe2")
	checkBehind(t, ".5", api.ErrByte, ".")
	for _, number := range []string{"1", "1.5", "1e5", "1.5e-5"} {
		check(t, number+".", words{token(2, number, 1, 1)}, fault(api.ErrByte, 1, len(number)+1, "."))
		check(t, number+".e1", words{token(2, number, 1, 1)}, fault(api.ErrByte, 1, len(number)+1, "."))
	}
	check(t, "1.5.2", words{token(2, "1.5", 1, 1)}, fault(api.ErrByte, 1, 4, "."))
	check(t, "1..2", words{token(2, "1", 1, 1)}, fault(api.ErrByte, 1, 2, "."))
}

func TestLongNames(t *testing.T) {
	for _, length := range []int{65, 66, 128, 1000, 1 << 16} {
		for _, piece := range []string{"a", "_", "Z"} {
			name := strings.Repeat(piece, length)
			checkBehind(t, name, api.ErrByte, name)
			checkBehind(t, name+"=1", api.ErrByte, name)
		}
	}
	name := "a" + strings.Repeat("0", 64)
	checkBehind(t, name+".", api.ErrByte, name)
}

func TestNotClosed(t *testing.T) {
	for _, text := range []string{"/*", "/*/", "/* ", "/**", "/* * /", "/*\n\n", "/* /*", "/* \"*", "/* // ", "/***", "/*.", "/*" + strings.Repeat("*", 1000)} {
		checkBehind(t, text, api.ErrText, "/*")
	}
	for _, text := range []string{
		`"`, `"a`, `"\"`, `"\`, `"\\`, `"a\\\"`, `"\"\`, "\"\n\"", "\"a\n", "\"\n", "\"\\\n\"", "\"\\\"\n\"",
		`"a\n"`, `"\a"`, `"\ "`, `"\/"`, "\"\\\xff\"", "\"\\\x00\"", `"\n`, `"/*`, `"//`, `"a' b`,
	} {
		checkBehind(t, text, api.ErrText, `"`)
	}
	check(t, `"a""`, words{token(3, "a", 1, 1)}, fault(api.ErrText, 1, 4, `"`))
	check(t, "\"a\"\n\"", words{token(3, "a", 1, 1)}, fault(api.ErrText, 2, 1, `"`))
	check(t, "1/*/", words{token(2, "1", 1, 1)}, fault(api.ErrText, 1, 2, "/*"))
	check(t, "a/**//*", words{token(1, "a", 1, 1)}, fault(api.ErrText, 1, 6, "/*"))
}

func TestWrongNumbers(t *testing.T) {
	for _, number := range []string{
		"1e1001", "1e+1001", "1e-1001", "1E1001", "1E-1001", "0e1001", "0.0e-1001", "1.5e+1001", "1e01001", "1e10000", "1e9999",
		"1e99999999999999999999", "1e-18446744073709551617", "1e9223372036854775808", "1e4294967296", "1e" + strings.Repeat("9", 3000), "1e1001x", "1e-1001e5", "1e1001_0",
		"1a", "1_", "12ab_3c", "1e", "1E", "1ee5", "1e_", "1.5e", "1.5x9", "1e5e5", "1e5_", "1E5E", "0x10", "1.0a", "1e+5x", "1e-05e", "1" + strings.Repeat("a", 100),
	} {
		checkBehind(t, number, api.ErrNumber, number)
		for _, behind := range []string{" ", ".5", "+", "-a", "\x00", `"`, "/*"} {
			checkBehind(t, number+behind, api.ErrNumber, number)
		}
	}
	for text, word := range map[string]string{"1e+": "1e", "1e-": "1e", "1e++5": "1e", "1e+x": "1e", "1.5E-.5": "1.5E", "1e.5": "1e", "1e 5": "1e", "1a.5": "1a", "1aé": "1a"} {
		checkBehind(t, text, api.ErrNumber, word)
	}
}

// TestFirstFault: of several faults the first one in the text is told.
func TestFirstFault(t *testing.T) {
	long := strings.Repeat("a", 65)
	wrong := map[string]api.Errno{".": api.ErrByte, long: api.ErrByte, "/*": api.ErrText, `"`: api.ErrText, "1e": api.ErrNumber, "1e1001": api.ErrNumber}
	for first, code := range wrong {
		for second := range wrong {
			checkFault(t, "\n"+first+" .\n"+second, fault(code, 2, 1, first))
		}
	}
}

// TestFaultsAsErrors: a fault is a *api.Fault, whose number is found in it.
func TestFaultsAsErrors(t *testing.T) {
	_, err := lex.Scan("a\n 1e")
	if f, ok := err.(*api.Fault); !ok || *f != fault(api.ErrNumber, 2, 2, "1e") {
		t.Errorf("Scan tells %T, %v", err, err)
	}
	if !errors.Is(err, api.ErrNumber) || errors.Is(err, api.ErrByte) {
		t.Errorf("%v is not its number", err)
	}
	if err.Error() != "2:2: error 22: 1e" {
		t.Errorf("%q", err.Error())
	}
}
