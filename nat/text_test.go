package nat_test

import (
	"strings"
	"testing"

	"credence/api"
	"credence/nat"
	"credence/samples"
)

// 1.6: Text, Parse.

func TestText(t *testing.T) {
	for _, c := range []struct {
		a    api.Nat
		want string
	}{
		{nil, "0"},
		{api.Nat{}, "0"},
		{num(0, 0), "0"},
		{num(7, 0, 0), "7"},
		{num(10), "10"},
		{num(999999999), "999999999"},
		{num(1000000000), "1000000000"},
		{num(1000000001), "1000000001"},
		{num(full), "4294967295"},
		{num(0, 1), "4294967296"},
		{num(0, 0, 1), "18446744073709551616"},
		{num(2808348672, 232830643), "1000000000000000000"},
		{num(2808348671, 232830643), "999999999999999999"},
		{two(100), "1267650600228229401496703205376"},
	} {
		if got := nat.Text(c.a); got != c.want {
			t.Errorf("Text(%v): %s, want %s", c.a, got, c.want)
		}
	}
}

func TestParse(t *testing.T) {
	for _, c := range []struct {
		s    string
		want api.Nat
	}{
		{"0", nil},
		{"000", nil},
		{strings.Repeat("0", 100), nil},
		{"007", num(7)},
		{strings.Repeat("0", 100) + "7", num(7)},
		{"9", num(9)},
		{"999999999", num(999999999)},
		{"0999999999", num(999999999)},
		{"1000000000", num(1000000000)},
		{"4294967295", num(full)},
		{"4294967296", num(0, 1)},
		{"18446744073709551615", num(full, full)},
		{"18446744073709551616", num(0, 0, 1)},
		{"1000000000000000000", num(2808348672, 232830643)},
	} {
		got, e := nat.Parse(c.s)
		if e != api.OK {
			t.Errorf("Parse(%s): %v", c.s, e)
		}
		check(t, "Parse("+c.s+")", got, c.want)
	}
}

func TestParseRefuses(t *testing.T) {
	for _, s := range []string{
		"", "+1", "-1", "1_0", " 1", "1 ", "1\n", "0x1", "1.0", "1e3", "-", "a", "\x00",
		// These are digits too, but not of one byte.
		"\u0663", "\uff11", "1\u0663",
	} {
		if a, e := nat.Parse(s); e != api.ErrDigits || len(a) != 0 {
			t.Errorf("Parse(%q): %v, %v", s, a, e)
		}
	}
}

// TestParseRefusesEachByte: one byte that is no digit, wherever it stands.
func TestParseRefusesEachByte(t *testing.T) {
	digits := "12345678901234567890"
	for b := range 256 {
		for at := range len(digits) {
			s := []byte(digits)
			s[at] = byte(b)
			a, e := nat.Parse(string(s))
			if b >= '0' && b <= '9' {
				if e != api.OK || slow(a) != slowTrim(string(s)) {
					t.Fatalf("Parse(%q): %v, %v", s, a, e)
				}
			} else if e != api.ErrDigits || len(a) != 0 {
				t.Fatalf("Parse(%q): %v, %v", s, a, e)
			}
		}
	}
}

// TestTextOnPaper holds both against digits that are reckoned on paper.
func TestTextOnPaper(t *testing.T) {
	for _, a := range append(samples.Nats(60, 8), samples.EdgeNats()...) {
		want := slow(a)
		if got := nat.Text(a); got != want {
			t.Fatalf("Text(%v): %s, want %s", a, got, want)
		}
		check(t, "Parse("+want+")", read(t, want), nat.Norm(a))
	}
}

func TestTextOfLongNumbers(t *testing.T) {
	for n := 1; n < 400; n++ {
		for _, s := range []string{"1" + strings.Repeat("0", n), strings.Repeat("9", n)} {
			if got := nat.Text(read(t, s)); got != s {
				t.Fatalf("Text of Parse(%s): %s", s, got)
			}
		}
	}
	s := strings.Repeat("1234567890", 5000)
	if nat.Text(read(t, s)) != s {
		t.Error("Text of Parse of 50000 digits")
	}
}
