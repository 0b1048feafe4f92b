package whole_test

import (
	"strings"
	"testing"

	"credence/api"
	"credence/whole"
)

// 2.5: Text, Parse.

func TestText(t *testing.T) {
	for _, c := range []struct {
		a    api.Int
		want string
	}{
		{minus(12), "-12"},
		{plus(12), "12"},
		{minus(7, 0, 0), "-7"},
		{plus(0, 0, 1), "18446744073709551616"},
		{minus(0, 0, 1), "-18446744073709551616"},
		{minus(0, 1<<31), "-9223372036854775808"},
	} {
		if got := whole.Text(c.a); got != c.want {
			t.Errorf("Text of %v: %s", c.a, got)
		}
	}
	for _, a := range zeros() {
		if got := whole.Text(a); got != "0" {
			t.Errorf("Text of %v: %s", a, got)
		}
	}
}

func TestParse(t *testing.T) {
	for s, want := range map[string]api.Int{
		"0":                     plus(),
		"-0":                    plus(),
		"-000":                  plus(),
		"007":                   plus(7),
		"-0012":                 minus(12),
		"9223372036854775808":   plus(0, 1<<31),
		"-9223372036854775809":  minus(1, 1<<31),
		"-18446744073709551616": minus(0, 0, 1),
	} {
		check(t, "Parse of "+s, read(t, s), want)
	}
}

func TestParseOfOthers(t *testing.T) {
	for _, s := range []string{
		"", "-", "+", "+1", "+0", "--1", "-+1", "- 1", "1-", "-1-", "1 ", " 1", " -1", "-1 ", "1\n", "-1\x00",
		"0x1", "1_0", "1.0", "1e3", "-a", "\u22121", "-\u0661", "1\xff", "--", "-1 -1", "\u20131",
	} {
		a, e := whole.Parse(s)
		if e != api.ErrDigits {
			t.Errorf("Parse of %q: %v", s, e)
		}
		check(t, "Parse", a, plus())
	}
}

// TestParseOfEachByte: but for digits no byte may stand in a number, and ahead
// of it but for a -.
func TestParseOfEachByte(t *testing.T) {
	for b := range 256 {
		c := string([]byte{byte(b)})
		digit := strings.Contains("0123456789", c)
		for s, may := range map[string]bool{c + "5": digit || c == "-", "5" + c: digit, "-" + c + "5": digit, "-5" + c: digit, c: digit} {
			if _, e := whole.Parse(s); may != (e == api.OK) || !may && e != api.ErrDigits {
				t.Errorf("Parse of %q: %v", s, e)
			}
		}
	}
}
