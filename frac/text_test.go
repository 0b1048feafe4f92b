package frac_test

import (
	"strings"
	"testing"

	"credence/api"
	"credence/frac"
)

// 3.5: Text, Parse.

func TestText(t *testing.T) {
	for _, c := range []struct {
		a    api.Rat
		want string
	}{
		{raw(-3, 2), "-3/2"},
		{raw(3, 2), "3/2"},
		{raw(7, 1), "7"},
		{raw(-7, 1), "-7"},
		{raw(0, 1), "0"},
		{raw(1, 10), "1/10"},
		{raw(-6, 4), "-3/2"},
		{raw(14, 2), "7"},
		{raw(7, 0), "7"},
		{long(true, api.Nat{6, 0}, api.Nat{4, 0, 0}), "-3/2"},
		{long(true, api.Nat{6, 0}, api.Nat{0, 0}), "-6"},
		{long(true, api.Nat{0, 0, 1}, api.Nat{3}), "-18446744073709551616/3"},
		{long(false, api.Nat{5}, api.Nat{0, 0, 1}), "5/18446744073709551616"},
	} {
		if got := frac.Text(c.a); got != c.want {
			t.Errorf("Text of %v: %s", c.a, got)
		}
	}
	for _, a := range zeros() {
		if got := frac.Text(a); got != "0" {
			t.Errorf("Text of %v: %s", a, got)
		}
	}
}

func TestParse(t *testing.T) {
	for s, want := range map[string]api.Rat{
		"-6/4":                    small(-3, 2),
		"6/4":                     small(3, 2),
		"007":                     small(7, 1),
		"-007":                    small(-7, 1),
		"-0":                      small(0, 1),
		"0":                       small(0, 1),
		"0/5":                     small(0, 1),
		"-0/5":                    small(0, 1),
		"-000/001":                small(0, 1),
		"0014/0004":               small(7, 2),
		"7/1":                     small(7, 1),
		"8/8":                     small(1, 1),
		"-18446744073709551616/4": long(true, api.Nat{0, 1 << 30}, api.Nat{1}),
		"3/18446744073709551616":  long(false, api.Nat{3}, api.Nat{0, 0, 1}),
		"1/0000000000000000000000000000000000000000000000000000000000000000000005": small(1, 5),
	} {
		check(t, "Parse of "+s, read(t, s), want)
	}
}

func TestParseOfOthers(t *testing.T) {
	for _, s := range []string{
		"", "-", "1/", "/2", "1/-2", "+1", "1.5", "1 /2", "1/ 2", " 1/2", "1/2 ", "1/2\n", "/", "-/2", "-/", "//", "1//2", "1/2/3", "1/2/",
		"1/+2", "--1/2", "1-/2", "- 1/2", "0x1/2", "1/0x2", "1_0/2", "1/1_0", "1e3", "1/2e3", "1\\2", "1:2", "\u22121/2", "1\u20442", "\u0661/2", "1/\u0662",
		"1\x00/2", "1/2\x00", "1/\xff", "a/b", "1/a", "a/1",
	} {
		got, e := frac.Parse(s)
		checkError(t, "Parse of "+s, got, e, api.ErrDigits)
	}
}

func TestParseOverNought(t *testing.T) {
	for _, s := range []string{"1/0", "-1/00", "0/0", "-0/0", "5/000000000000000000000000000000"} {
		got, e := frac.Parse(s)
		checkError(t, "Parse of "+s, got, e, api.ErrZero)
	}
	// What is no fraction is told ahead of what is over 0.
	for _, s := range []string{"/0", "-/0", "x/0", "+1/0", "1/0/1", "1/0 ", "1/-0", "1/0/"} {
		got, e := frac.Parse(s)
		checkError(t, "Parse of "+s, got, e, api.ErrDigits)
	}
}

// TestParseOfEachByte: but for digits no byte may stand in a fraction, but for
// a - ahead of it and one / within.
func TestParseOfEachByte(t *testing.T) {
	for b := range 256 {
		c := string([]byte{byte(b)})
		digit := strings.Contains("0123456789", c)
		for s, may := range map[string]bool{
			c: digit, c + "5": digit || c == "-", "5" + c: digit, "5" + c + "5": digit || c == "/",
			c + "5/6": digit || c == "-", "5" + c + "/6": digit, "5/" + c + "6": digit, "5/6" + c: digit, "5/6" + c + "6": digit,
		} {
			if _, e := frac.Parse(s); may != (e == api.OK) || !may && e != api.ErrDigits {
				t.Errorf("Parse of %q: %v", s, e)
			}
		}
	}
}
