package expr_test

import (
	"math/rand"
	"strings"
	"testing"

	"credence/api"
	"credence/frac"
	"credence/nat"
	"credence/samples"
)

// 9.2: Eval.

func TestExamplesOfEval(t *testing.T) {
	for list, want := range map[string]string{
		"1 2 + 3 *": "9", "1 2 3 * +": "7", "8 4 2 / /": "4", "8 4 / 2 /": "1", "5 n n": "5",
		"1" + strings.Repeat(" n", 64): "1",
	} {
		checkValue(t, samples.Terms(list), read(want))
	}
	for list, want := range map[string]api.Errno{
		"": api.ErrSyntax, "1 2": api.ErrSyntax, "+": api.ErrSyntax, "1 +": api.ErrSyntax, "k7": api.ErrSyntax,
		"1 0 /": api.ErrZero, "1 2 2 - /": api.ErrZero, "1" + strings.Repeat(" n", 65): api.ErrDeep,
	} {
		checkNoValue(t, samples.Terms(list), want)
	}
}

func TestValues(t *testing.T) {
	for list, want := range map[string]string{
		"7": "7", "0": "0", "-3/4": "-3/4", "0 n": "0", "2/3 n": "-2/3", "-2/3 n": "2/3",
		"1/2 1/3 +": "5/6", "1/2 1/3 -": "1/6", "1/3 1/2 -": "-1/6", "2/3 3/4 *": "1/2", "2/3 3/4 /": "8/9", "3/4 2/3 /": "9/8", "1/2 1/2 -": "0", "0 5 /": "0", "0 -5 *": "0",
		"1 2 - 3 -": "-4", "1 2 3 - -": "2", "1 -2 /": "-1/2", "-1 -2 /": "1/2", "6 2 3 * /": "1", "6 2 / 3 *": "9",
		"1 2 + 3 4 + *": "21", "1 1 1 1 + / +": "3/2", "1 2 n -": "3", "1 2 - n": "1",
		"9/10 n 1 +": "1/10", "10000000000000000000000 3 / 1/3 *": "10000000000000000000000/9",
		"99999999999999999999 1 +": "100000000000000000000", "1 18446744073709551616 / 18446744073709551616 *": "1",
	} {
		checkValue(t, samples.Terms(list), read(want))
	}
}

// TestZero: a right part that is 0 has no value above it, however it came to
// be 0, wherever it stands, whatever it is multiplied with.
func TestZero(t *testing.T) {
	for _, list := range []string{
		"0 0 /", "1 0 n /", "1 1 n 1 + /", "1 0 / 0 *", "0 1 0 / *", "1 0 / n", "1 1 0 / /", "1 0 / 2 +", "2 1 0 / +", "1 2 0 * /", "3 1/3 1/3 - /", "1 0 5 / /",
		"1 0 / 1 0 / -", "7 1 0 / -",
	} {
		checkNoValue(t, samples.Terms(list), api.ErrZero)
	}
	for _, zero := range []api.Rat{{}, samples.Ratio(0, 7), {Num: api.Int{Neg: true}}, {Num: api.Int{Neg: true, Mag: api.Nat{0, 0}}, Den: api.Nat{5, 0}}, {Num: api.Int{Mag: api.Nat{}}, Den: api.Nat{0}}} {
		l := []api.Term{samples.Whole(1), samples.Number(zero), samples.Sign(api.TermOver)}
		checkNoValue(t, l, api.ErrZero)
		checkValue(t, l[1:2], read("0"))
		l[2].Kind = api.TermMinus
		checkValue(t, l, read("1"))
	}
}

// TestNumbers: a number stands for what it says, normal or not.
func TestNumbers(t *testing.T) {
	edges := samples.EdgeNats()
	for _, a := range samples.Rats(samples.Ints(edges[:40]), append(edges[20:60:60], nil, api.Nat{0}, api.Nat{6, 0})) {
		want := frac.Sum(a)
		checkValue(t, []api.Term{samples.Number(a)}, want)
		checkValue(t, []api.Term{samples.Number(a), samples.Sign(api.TermNeg)}, frac.Neg(want))
		checkValue(t, []api.Term{samples.Number(a), samples.Number(a), samples.Sign(api.TermMinus)}, read("0"))
		if frac.Sign(a) == 0 {
			checkNoValue(t, []api.Term{samples.Number(a), samples.Number(a), samples.Sign(api.TermOver)}, api.ErrZero)
			continue
		}
		checkValue(t, []api.Term{samples.Number(a), samples.Number(a), samples.Sign(api.TermOver)}, read("1"))
	}
	checkValue(t, []api.Term{samples.Number(samples.Ratio(3, 0))}, read("3"))
	checkValue(t, []api.Term{samples.Number(samples.Ratio(-6, 4))}, read("-3/2"))
	checkValue(t, []api.Term{samples.Number(api.Rat{})}, read("0"))
}

// TestSignsWithNumbers: of a sign the number counts for nothing.
func TestSignsWithNumbers(t *testing.T) {
	plus := api.Term{Kind: api.TermPlus, Number: samples.Ratio(5, 1)}
	neg := api.Term{Kind: api.TermNeg, Number: samples.Ratio(-7, 0)}
	l := []api.Term{samples.Whole(1), neg, samples.Whole(2), plus}
	checkValue(t, l, read("1"))
	checkDeep(t, l, 1)
	checkLine(t, l, 0, "-1 2 0 1")
	checkNoLine(t, l, 1, api.ErrRange)
}

// valueOf is the value of a tree, if it has one, reckoned with pairs.
func valueOf(x *samples.Tree) (samples.Pair, bool) {
	if x.Kind == api.TermNumber {
		return samples.PairOf(x.Number), true
	}
	right, ok := valueOf(x.Right)
	if !ok || x.Kind == api.TermNeg {
		return right.Neg(), ok
	}
	left, ok := valueOf(x.Left)
	switch {
	case !ok || x.Kind == api.TermOver && right.Num == 0:
		return samples.Pair{}, false
	case x.Kind == api.TermPlus:
		return left.Plus(right), true
	case x.Kind == api.TermMinus:
		return left.Minus(right), true
	case x.Kind == api.TermTimes:
		return left.Times(right), true
	}
	return left.Over(right), true
}

// TestShortExpressions: all short expressions, with all choices of some
// numbers.
func TestShortExpressions(t *testing.T) {
	zero, count := 0, 0
	for l := range samples.Expressions(7) {
		for l := range filled(l, numbers()) {
			count++
			want, ok := valueOf(samples.TreeOf(l))
			if !ok {
				zero++
				checkNoValue(t, l, api.ErrZero)
				continue
			}
			checkValue(t, l, want.Rat())
		}
	}
	if zero == 0 || zero > count/2 {
		t.Errorf("%d of %d have no value", zero, count)
	}
}

// treeValue is the value of a tree, if it has one, reckoned with fractions.
func treeValue(x *samples.Tree) (api.Rat, api.Errno) {
	if x.Kind == api.TermNumber {
		return frac.Sum(x.Number), api.OK
	}
	right, e := treeValue(x.Right)
	if e != api.OK || x.Kind == api.TermNeg {
		return frac.Neg(right), e
	}
	left, e := treeValue(x.Left)
	switch {
	case e != api.OK:
		return api.Rat{}, e
	case x.Kind == api.TermPlus:
		return frac.Add(left, right), api.OK
	case x.Kind == api.TermMinus:
		return frac.Sub(left, right), api.OK
	case x.Kind == api.TermTimes:
		return frac.Mul(left, right), api.OK
	}
	return frac.Div(left, right)
}

// TestGrownValues: made expressions.
func TestGrownValues(t *testing.T) {
	source := rand.New(rand.NewSource(92))
	valued := 0
	for range 1500 {
		l := samples.Piled(source.Intn, samples.Grown(source.Intn, source.Intn(6)), source.Intn(40))
		want, e := treeValue(samples.TreeOf(l))
		switch {
		case deepOf(samples.TreeOf(l)) > api.MaxDeep:
			checkNoValue(t, l, api.ErrDeep)
		case e != api.OK:
			checkNoValue(t, l, e)
		default:
			valued++
			checkValue(t, l, want)
		}
	}
	if valued < 300 {
		t.Errorf("%d have a value", valued)
	}
}

// TestOrderOfErrors: what is no expression comes ahead of what is too deep,
// this ahead of what is divided by 0.
func TestOrderOfErrors(t *testing.T) {
	deep := strings.Repeat(" n", 65)
	for _, list := range []string{"1 0 / +", "1 0 / 2", "1" + deep + " 2", "1" + deep + " *", "1 0 /" + deep + " k7", "k0 1 0 /"} {
		checkNoValue(t, samples.Terms(list), api.ErrSyntax)
	}
	for _, list := range []string{"1 0 /" + deep, "1" + deep + " 0 /", "1 0 / 1" + deep + " +"} {
		checkNoValue(t, samples.Terms(list), api.ErrDeep)
	}
	checkNoValue(t, samples.Terms("1 0 /"+strings.Repeat(" n", 62)), api.ErrZero)
	checkNoValue(t, samples.Terms("1 0 /"+strings.Repeat(" n", 63)), api.ErrZero)
	checkNoValue(t, samples.Terms("1 0 /"+strings.Repeat(" n", 64)), api.ErrDeep)
}

// TestLargeValues: numbers have no ends.
func TestLargeValues(t *testing.T) {
	const count = 3000
	power := nat.Of(1)
	for range count {
		power = nat.Mul(power, nat.Of(3))
	}
	long := api.Rat{Num: api.Int{Mag: power}, Den: api.Nat{1}}
	checkValue(t, samples.Chain("x 3 *", count), long)
	checkValue(t, samples.Chain("x -3 /", count), api.Rat{Num: api.Int{Mag: api.Nat{1}}, Den: power})
	checkLine(t, samples.Chain("x 3 *", count), 0, nat.Text(power)+" 0 0 1")
	checkLine(t, samples.Chain("x 3 /", count), 0, "1/"+nat.Text(power)+" 0 0 1")
}

// TestNilLists: nil and no elements are the same.
func TestNilLists(t *testing.T) {
	for _, l := range [][]api.Term{nil, {}} {
		checkNoDeep(t, l)
		checkNoValue(t, l, api.ErrSyntax)
		checkNoLine(t, l, 0, api.ErrSyntax)
	}
	checkValue(t, []api.Term{samples.Number(api.Rat{Num: api.Int{Mag: api.Nat{}}, Den: api.Nat{}})}, read("0"))
}
