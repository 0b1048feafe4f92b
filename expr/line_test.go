package expr_test

import (
	"math"
	"math/rand"
	"strings"
	"testing"

	"credence/api"
	"credence/expr"
	"credence/frac"
	"credence/samples"
)

// 9.3: Line.

func TestExamplesOfLine(t *testing.T) {
	for _, c := range []struct {
		list string
		at   int
		want string
	}{
		{"2 3 +", 0, "1 3 0 1"}, {"2 3 +", 1, "1 2 0 1"}, {"2 3 -", 1, "-1 2 0 1"}, {"2 3 *", 0, "3 0 0 1"},
		{"6 2 /", 1, "0 6 1 0"}, {"6 2 /", 0, "1/2 0 0 1"}, {"1 2 3 + /", 1, "0 1 1 3"},
	} {
		checkLine(t, samples.Terms(c.list), c.at, c.want)
	}
	for _, c := range []struct {
		list string
		at   int
		want api.Errno
	}{
		{"1 0 7 * /", 2, api.ErrZero}, {"7 0 /", 0, api.ErrZero}, {"2 3 +", 2, api.ErrRange}, {"2 3 +", -1, api.ErrRange},
	} {
		checkNoLine(t, samples.Terms(c.list), c.at, c.want)
	}
}

func TestLines(t *testing.T) {
	for _, c := range []struct {
		list string
		at   int
		want string
	}{
		{"9", 0, "1 0 0 1"}, {"9 n", 0, "-1 0 0 1"}, {"9 n n", 0, "1 0 0 1"},
		{"2 3 -", 0, "1 -3 0 1"}, {"2 3 *", 1, "2 0 0 1"}, {"0 9 *", 1, "0 0 0 1"}, {"9 0 *", 0, "0 0 0 1"}, {"9 -2/3 /", 0, "-3/2 0 0 1"},
		// 1 over (1 over x) is x, though not at 0.
		{"1 1 9 / /", 2, "1 0 0 1"}, {"2 3 9 / /", 2, "2/3 0 0 1"},
		// What is multiplied with 0 keeps what is below the stroke.
		{"0 1 9 / *", 2, "0 0 1 0"}, {"0 1 9 / * 5 +", 2, "5 0 1 0"}, {"1 9 2 - / 0 *", 1, "0 0 1 -2"}, {"0 9 /", 1, "0 0 1 0"},
		// All four are divided by C, or by D.
		{"1 9 3 * 2 + /", 1, "0 1/3 1 2/3"}, {"9 4 /", 0, "1/4 0 0 1"}, {"6 9 n /", 1, "0 -6 1 0"}, {"2 1 3 9 / - /", 3, "2 0 1 -3"},
		{"1 0 9 * 4 + /", 2, "0 1/4 0 1"}, {"3 0 9 * 4 - /", 2, "0 -3/4 0 1"},
		// Other parts are their values, on either side.
		{"2 3 + 9 4 n * -", 3, "4 5 0 1"}, {"9 1 2 + 3 4 * / -", 0, "1 -1/4 0 1"}, {"9 2 + 9 3 + *", 0, "12 24 0 1"}, {"9 2 + 9 3 + *", 3, "11 33 0 1"},
		{"1 2 9 + / 3 4 / -", 2, "-3/4 -1/2 1 2"}, {"3 4 / 1 2 9 + / -", 5, "3/4 1/2 1 2"}, {"1 2 9 + / n 5 *", 2, "0 -5 1 2"},
	} {
		checkLine(t, samples.Terms(c.list), c.at, c.want)
	}
}

// TestOpenNumber: the number that is left open counts for nothing, and 0 there
// is no divisor.
func TestOpenNumber(t *testing.T) {
	for _, a := range []api.Rat{{}, samples.Ratio(0, 1), samples.Ratio(5, 1), samples.Ratio(-4, 6), samples.Ratio(3, 0), {Num: api.Int{Neg: true, Mag: api.Nat{0, 0, 7, 0}}, Den: api.Nat{0, 9}}} {
		checkLine(t, with(samples.Terms("6 1 /"), 1, a), 1, "0 6 1 0")
		checkLine(t, with(samples.Terms("6 1 2 - /"), 1, a), 1, "0 6 1 -2")
		checkLine(t, with(samples.Terms("1 2 3 * +"), 2, a), 2, "2 1 0 1")
	}
}

// TestNoPlace: what is no number's place, wherever.
func TestNoPlace(t *testing.T) {
	for _, list := range []string{"7", "7 n", "1 2 +", "1 2 3 * -", "1 0 /", "1 2 n / 3 *"} {
		l := samples.Terms(list)
		for _, at := range []int{math.MinInt, -2, -1, len(l), len(l) + 1, math.MaxInt} {
			checkNoLine(t, l, at, api.ErrRange)
		}
		for at, x := range l {
			if x.Kind != api.TermNumber {
				checkNoLine(t, l, at, api.ErrRange)
			}
		}
	}
}

// TestZeroOfLines: a divisor that is 0 whatever x is, with x in it or not.
func TestZeroOfLines(t *testing.T) {
	for _, c := range []struct {
		list string
		at   int
	}{
		{"9 0 /", 0}, {"9 1 1 - /", 0}, {"1 0 9 * /", 2}, {"1 9 0 * /", 1}, {"0 0 9 * /", 2}, {"9 1 0 / +", 0}, {"1 0 / 9 +", 3}, {"9 1 0 / *", 0}, {"1 0 / 9 *", 3}, {"0 1 0 / * 9 +", 5},
		{"1 0 9 / /", 2}, {"1 0 9 * 5 + 5 - /", 2}, {"1 3 0 9 * + 3 - /", 3}, {"1 3 3 0 9 * + - /", 4}, {"1 0 9 * n /", 2}, {"1 0 9 / 3 / /", 2}, {"9 1 0 / -", 0}, {"1 0 / 9 -", 3}, {"1 0 / 9 /", 3}, {"9 1 0 / /", 0},
	} {
		checkNoLine(t, samples.Terms(c.list), c.at, api.ErrZero)
	}
}

// TestOrderOfErrorsOfLine: ErrSyntax, ErrDeep, ErrRange, ErrZero.
func TestOrderOfErrorsOfLine(t *testing.T) {
	deep := strings.Repeat(" n", 65)
	for _, at := range []int{-1, 0, 1, 2, 3, 99} {
		checkNoLine(t, samples.Terms("1 0 / +"), at, api.ErrSyntax)
		checkNoLine(t, samples.Terms("1 0 /"+deep+" 2"), at, api.ErrSyntax)
		checkNoLine(t, samples.Terms("1 0 /"+deep), at, api.ErrDeep)
		checkNoLine(t, samples.Terms("1 0 / 1"+deep+" +"), at, api.ErrDeep)
	}
	for _, at := range []int{-1, 2, 4, 5} {
		checkNoLine(t, samples.Terms("1 0 / 9 +"), at, api.ErrRange)
	}
	checkNoLine(t, samples.Terms("1 0 / 9 +"), 3, api.ErrZero)
	checkLine(t, samples.Terms("9"+strings.Repeat(" n", 64)), 0, "1 0 0 1")
}

// four are the A, B, C, D of a part in which the place is.
type four struct{ a, b, c, d samples.Pair }

// byTable is the row of the chapter's table: of the part that is f, k being the
// other one. ok is whether no divisor is 0.
func byTable(kind int8, f four, k samples.Pair, kIsLeft bool) (four, bool) {
	a, b, c, d := f.a, f.b, f.c, f.d
	switch {
	case kind == api.TermNeg:
		return four{a.Neg(), b.Neg(), c, d}, true
	case kind == api.TermPlus:
		return four{a.Plus(k.Times(c)), b.Plus(k.Times(d)), c, d}, true
	case kind == api.TermMinus && !kIsLeft:
		return four{a.Minus(k.Times(c)), b.Minus(k.Times(d)), c, d}, true
	case kind == api.TermMinus:
		return four{k.Times(c).Minus(a), k.Times(d).Minus(b), c, d}, true
	case kind == api.TermTimes:
		return four{k.Times(a), k.Times(b), c, d}, true
	case kIsLeft:
		return four{k.Times(c), k.Times(d), a, b}, a.Num != 0 || b.Num != 0
	case k.Num == 0:
		return four{}, false
	}
	return four{a.Over(k), b.Over(k), c, d}, true
}

// has is whether the place is in a tree.
func has(x *samples.Tree, at int) bool {
	return x != nil && (x.At == at || has(x.Left, at) || has(x.Right, at))
}

// fourOf is what a tree with the place in it is; ok, if no divisor is 0.
func fourOf(x *samples.Tree, at int) (four, bool) {
	if x.At == at {
		return four{a: samples.NewPair(1, 1), b: samples.NewPair(0, 1), c: samples.NewPair(0, 1), d: samples.NewPair(1, 1)}, true
	}
	inner, other := x.Right, x.Left
	if has(x.Left, at) {
		inner, other = x.Left, x.Right
	}
	f, ok := fourOf(inner, at)
	if !ok {
		return four{}, false
	}
	var k samples.Pair
	if other != nil {
		if k, ok = valueOf(other); !ok {
			return four{}, false
		}
	}
	return byTable(x.Kind, f, k, other == x.Left)
}

// text is the four divided by C, or, if that is 0, by D.
func (f four) text() string {
	by := f.c
	if by.Num == 0 {
		by = f.d
	}
	var words []string
	for _, x := range []samples.Pair{f.a, f.b, f.c, f.d} {
		words = append(words, frac.Text(x.Over(by).Rat()))
	}
	return strings.Join(words, " ")
}

// TestShortLines: all short expressions with all choices of some numbers, at
// each place.
func TestShortLines(t *testing.T) {
	zero, count := 0, 0
	for l := range samples.Expressions(7) {
		open := places(l)
		for l := range filled(l, numbers()[:len(numbers())-len(open)/4]) {
			for _, at := range open {
				count++
				want, ok := fourOf(samples.TreeOf(l), at)
				if !ok {
					zero++
					checkNoLine(t, l, at, api.ErrZero)
					continue
				}
				checkLine(t, l, at, want.text())
			}
		}
	}
	if zero == 0 || zero > count/2 {
		t.Errorf("%d of %d have no line", zero, count)
	}
}

// 9.4: what follows.

// apply is (A x + B) / (C x + D), if the lower part is not 0.
func apply(f api.Line, x api.Rat) (api.Rat, api.Errno) {
	return frac.Div(frac.Add(frac.Mul(f.A, x), f.B), frac.Add(frac.Mul(f.C, x), f.D))
}

// values are some numbers to put in the place.
func values() []api.Rat {
	return []api.Rat{samples.Ratio(0, 1), samples.Ratio(1, 1), samples.Ratio(-1, 1), samples.Ratio(2, 1), samples.Ratio(1, 2), samples.Ratio(-1, 2), samples.Ratio(7, 5), samples.Ratio(22, 7)}
}

// overs is how many of an expression's signs divide.
func overs(l []api.Term) int {
	count := 0
	for _, x := range l {
		if x.Kind == api.TermOver {
			count++
		}
	}
	return count
}

// checkFollows holds a line against the values with a number in the place. A
// divisor that is not 0 whatever x is is 0 at one x at most: so there are
// values, if there are more numbers than divisors.
func checkFollows(t *testing.T, l []api.Term, at int) {
	t.Helper()
	f, code := expr.Line(l, at)
	met := 0
	for _, x := range values() {
		want, e := expr.Eval(with(l, at, x))
		if e != api.OK {
			continue
		}
		met++
		if got, e := apply(f, x); code != api.OK || e != api.OK || !samples.SameLimbs(got, want) {
			t.Fatalf("Line(%.200s, %d): %s, %v: at %s %.200s, %v, want %.200s", samples.Wording(l), at, lineText(f), code, frac.Text(x), frac.Text(got), e, frac.Text(want))
		}
	}
	if code == api.OK && met == 0 && overs(l) < len(values()) {
		t.Fatalf("Line(%.200s, %d): %s, and there is no value", samples.Wording(l), at, lineText(f))
	}
}

func TestValuesOfShortLines(t *testing.T) {
	for l := range samples.Expressions(7) {
		open := places(l)
		for l := range filled(l, numbers()[:len(numbers())-len(open)/2]) {
			for _, at := range open {
				checkFollows(t, l, at)
			}
		}
	}
}

func TestValuesOfGrownLines(t *testing.T) {
	source := rand.New(rand.NewSource(94))
	lines := 0
	for range 400 {
		l := samples.Piled(source.Intn, samples.Grown(source.Intn, source.Intn(6)), source.Intn(25))
		for _, at := range places(l) {
			checkFollows(t, l, at)
			if _, e := expr.Line(l, at); e == api.OK {
				lines++
			}
		}
	}
	if lines < 400 {
		t.Errorf("%d lines", lines)
	}
}

// TestValueOfALineAlone: there is an x at which the line has a value, and Eval
// is ErrZero.
func TestValueOfALineAlone(t *testing.T) {
	l := samples.Terms("1 1 0 / /")
	checkNoValue(t, l, api.ErrZero)
	checkLine(t, l, 2, "1 0 0 1")
}
