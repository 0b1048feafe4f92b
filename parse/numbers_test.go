package parse_test

import (
	"iter"
	"math/rand"
	"strings"
	"testing"

	"credence/api"
	"credence/decimal"
	"credence/frac"
	"credence/lex"
	"credence/parse"
)

// 7.1: Numbers.

func TestExamplesOfRows(t *testing.T) {
	checkNumbers(t, "1, 0.5", "1; 1/2")
	checkNumbers(t, "1 - 2 - 3", "1 2 - 3 -")
	checkNumbers(t, "1 - 2 * 3", "1 2 3 * -")
	checkNumbers(t, "-(1 + 2) / -3", "1 2 + neg 3 neg /")
	checkNumbers(t, strings.Repeat("-", 64)+"1", "1"+strings.Repeat(" neg", 64))
}

func TestSums(t *testing.T) {
	for text, want := range map[string]string{
		"7":                       "7",
		"1+2":                     "1 2 +",
		"1-2+3-4":                 "1 2 - 3 + 4 -",
		"1/2*3/4":                 "1 2 / 3 * 4 /",
		"1 / 2 / 3":               "1 2 / 3 /",
		"1 + 2 * 3 + 4":           "1 2 3 * + 4 +",
		"1 * 2 + 3 * 4":           "1 2 * 3 4 * +",
		"1 - (2 - 3)":             "1 2 3 - -",
		"1 / (2 * 3)":             "1 2 3 * /",
		"(1 + 2) * (3 - 4)":       "1 2 + 3 4 - *",
		"((((1))))":               "1",
		"(((1)) + (2))":           "1 2 +",
		"--1":                     "1 neg neg",
		"-1 - -2":                 "1 neg 2 neg -",
		"- 1 * 2":                 "1 neg 2 *",
		"-(1 * 2)":                "1 2 * neg",
		"-(-(1))":                 "1 neg neg",
		"1 * -2 + -3 / -(4)":      "1 2 neg * 3 neg 4 neg / +",
		"1---2":                   "1 2 neg neg -",
		"1,2,3":                   "1; 2; 3",
		"(1 + 2), -3,4/5 ,6-7":    "1 2 +; 3 neg; 4 5 /; 6 7 -",
		"\n1\r,\t2 ":              "1; 2",
		"1 // and, more\n+ 2":     "1 2 +",
		"1/**// 2":                "1 2 /",
		"1 /* , 2 */ , /* 3 */ 4": "1; 4",
	} {
		checkNumbers(t, text, want)
	}
}

// TestNumbersOfSums: a number is what it means, in lowest terms.
func TestNumbersOfSums(t *testing.T) {
	for text, want := range map[string]string{
		"0": "0", "00": "0", "0.0": "0", "0e0": "0", "007": "7", "0.50": "1/2", "1.5e-3": "3/2000", "2E+2": "200", "10e-1": "1", "0.125": "1/8",
		"18446744073709551616": "18446744073709551616", "4294967296": "4294967296", "0.1": "1/10", "1e0001": "10",
		"1e1000": "1" + strings.Repeat("0", 1000), "1e-1000": "1/1" + strings.Repeat("0", 1000),
		strings.Repeat("9", 500): strings.Repeat("9", 500),
	} {
		checkNumbers(t, text, want)
		checkNumbers(t, "-"+text+","+text+"/("+text+")", want+" neg; "+want+" "+want+" /")
	}
	zero := row(t, "0")[0][0]
	if zero.Number.Num.Neg || len(zero.Number.Num.Mag) != 0 || len(zero.Number.Den) != 1 || zero.Number.Den[0] != 1 {
		t.Errorf("0 is %v", zero.Number)
	}
	half := row(t, "0.500")[0][0]
	if frac.Cmp(half.Number, api.Rat{Num: api.Int{Mag: api.Nat{1}}, Den: api.Nat{2}}) != 0 || len(half.Number.Den) != 1 || half.Number.Den[0] != 2 {
		t.Errorf("0.500 is %v", half.Number)
	}
}

// power is how tightly a sign binds.
func power(sign string) int {
	switch sign {
	case "+", "-":
		return 1
	case "*", "/":
		return 2
	case "neg":
		return 3
	}
	return 0
}

// yard is what a row says, found without recursion: signs wait on a pile until
// one comes that binds no tighter.
func yard(text string) string {
	var sums, out, pile []string
	drop := func(least int) {
		for len(pile) > 0 && power(pile[len(pile)-1]) >= least {
			out = append(out, pile[len(pile)-1])
			pile = pile[:len(pile)-1]
		}
	}
	behind := false // whether what is ahead is a number or a closing bracket
	for x := range lex.Each(text) {
		switch {
		case x.Kind == api.TokenNumber:
			value, _ := decimal.Parse(x.Text)
			out = append(out, frac.Text(value))
		case x.Text == "(":
			pile = append(pile, "(")
		case x.Text == ")":
			drop(1)
			pile = pile[:len(pile)-1]
		case x.Text == "," || x.Kind == api.TokenEnd:
			drop(1)
			sums = append(sums, strings.Join(out, " "))
			out = nil
		case !behind:
			pile = append(pile, "neg")
		default:
			drop(power(x.Text))
			pile = append(pile, x.Text)
		}
		behind = x.Kind == api.TokenNumber || x.Text == ")"
	}
	return strings.Join(sums, "; ")
}

// texts goes over all texts of up to most of some pieces, blanks between.
func texts(pieces []string, most int) iter.Seq[string] {
	return func(yield func(string) bool) {
		var grow func(text string, left int) bool
		grow = func(text string, left int) bool {
			if !yield(text) {
				return false
			}
			for _, piece := range pieces {
				if left > 0 && !grow(text+piece+" ", left-1) {
					return false
				}
			}
			return true
		}
		grow("", most)
	}
}

// checkRow holds any text against the grammar and, where it is a row, against
// what the pile says.
func checkRow(t *testing.T, g grammar, text string) {
	t.Helper()
	if want := g.judge("row", text); want.Code != api.OK {
		checkNoRow(t, text, want)
		return
	}
	checkNumbers(t, text, yard(text))
}

// TestShortRows: all short texts, of signs and of all kinds of words.
func TestShortRows(t *testing.T) {
	g := newGrammar(grammarOfFiles)
	for _, c := range []struct {
		pieces []string
		most   int
	}{
		{[]string{"1", "-", "*", "(", ")", ","}, 6},
		{[]string{"1", "-", "+", "/"}, 7},
		{[]string{"1", "-", "(", ")"}, 8},
		{append(others(), "1e", ".", "/*"), 3},
	} {
		for text := range texts(c.pieces, c.most) {
			checkRow(t, g, text)
		}
	}
}

// tree writes an expression with no more than so many signs, as a text with
// the brackets that it needs and some more, and in the order of its terms.
func tree(source *rand.Rand, signs, least int) (string, string) {
	text, terms, own := "", "", 3
	choice := source.Intn(6)
	left := source.Intn(max(signs, 1))
	switch {
	case signs == 0:
		text = []string{"1", "0.25", "3e2", "10", "0"}[source.Intn(5)]
		value, _ := decimal.Parse(text)
		terms = frac.Text(value)
	case choice == 0:
		text, terms = tree(source, signs-1, 3)
		text, terms = "-"+text, terms+" neg"
	default:
		sign := []string{"+", "-", "*", "/", "-"}[choice-1]
		own = power(sign)
		leftText, leftTerms := tree(source, left, own)
		rightText, rightTerms := tree(source, signs-1-left, own+1)
		text, terms = leftText+" "+sign+" "+rightText, leftTerms+" "+rightTerms+" "+sign
	}
	if own < least || source.Intn(8) == 0 {
		text = "(" + text + ")"
	}
	return text, terms
}

func TestTrees(t *testing.T) {
	source := rand.New(rand.NewSource(7))
	for range 20000 {
		var texts, terms []string
		for range source.Intn(3) + 1 {
			text, list := tree(source, source.Intn(12), 1)
			texts, terms = append(texts, text), append(terms, list)
		}
		checkNumbers(t, strings.Join(texts, ", "), strings.Join(terms, "; "))
	}
}

// TestLongRows: sums that are long and not deep.
func TestLongRows(t *testing.T) {
	const count = 100000
	if got := row(t, "1"+strings.Repeat(" - 1", count)); len(got) != 1 || len(got[0]) != 2*count+1 {
		t.Errorf("a long sum: %d sums", len(got))
	}
	if got := row(t, "1"+strings.Repeat(" * (-(1))", count)); len(got) != 1 || len(got[0]) != 3*count+1 {
		t.Errorf("a long product: %d sums", len(got))
	}
	if got := row(t, "0"+strings.Repeat(",0.5", count)); len(got) != count+1 {
		t.Errorf("a long row: %d sums", len(got))
	}
	if _, err := parse.Numbers(strings.Repeat("1 + ", count)); faultOf(err) != fault(api.ErrSyntax, 1, 4*count+1, "") {
		t.Errorf("a long sum without its end: %v", err)
	}
}
