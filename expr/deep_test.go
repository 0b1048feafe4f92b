package expr_test

import (
	"math/rand"
	"runtime/debug"
	"slices"
	"strings"
	"testing"

	"credence/api"
	"credence/expr"
	"credence/parse"
	"credence/samples"
	"credence/show"
)

// 9.1: Deep.

func TestExamplesOfDeep(t *testing.T) {
	for list, want := range map[string]int{"1 2 + 3 *": 1, "1 2 3 * +": 0, "8 4 2 / /": 1, "8 4 / 2 /": 0, "5 n n": 2, "1 2 + n": 2} {
		checkDeep(t, samples.Terms(list), want)
	}
}

// TestBrackets: each sign with each other one as its part.
func TestBrackets(t *testing.T) {
	for list, want := range map[string]int{
		"1": 0, "1 n": 1, "1 2 +": 0, "1 2 -": 0, "1 2 *": 0, "1 2 /": 0,
		"1 2 - n": 2, "1 2 * n": 2, "1 2 / n": 2, "1 n n n": 3,
		"1 2 + 3 +": 0, "1 2 - 3 +": 0, "1 2 + 3 -": 0, "1 2 - 3 -": 0, "1 2 * 3 +": 0, "1 2 / 3 -": 0, "1 n 2 +": 1,
		"1 2 3 + +": 1, "1 2 3 - +": 1, "1 2 3 + -": 1, "1 2 3 - -": 1, "1 2 3 / +": 0, "1 2 3 * -": 0, "1 2 3 / -": 0, "1 2 n -": 1,
		"1 2 - 3 *": 1, "1 2 + 3 /": 1, "1 2 - 3 /": 1, "1 2 * 3 *": 0, "1 2 / 3 *": 0, "1 2 * 3 /": 0, "1 n 2 /": 1, "1 n 2 *": 1,
		"1 2 3 + *": 1, "1 2 3 - *": 1, "1 2 3 + /": 1, "1 2 3 - /": 1, "1 2 3 * *": 1, "1 2 3 / *": 1, "1 2 3 * /": 1, "1 2 n *": 1, "1 2 n /": 1,
		"1 2 + 3 4 - *": 1, "1 2 + n 3 *": 2, "1 2 3 4 - - -": 2, "1 2 3 4 5 * - * +": 1, "1 n n 2 +": 2, "1 2 n n +": 2, "1 2 + 3 * n": 3,
	} {
		checkDeep(t, samples.Terms(list), want)
	}
}

// deepOf is how deep a tree is, as the chapter's 'Words' have it.
func deepOf(x *samples.Tree) int {
	in := func(part *samples.Tree, brackets bool) int {
		if brackets {
			return deepOf(part) + 1
		}
		return deepOf(part)
	}
	switch {
	case x.Kind == api.TermNumber:
		return 0
	case x.Kind == api.TermNeg:
		return in(x.Right, x.Right.IsTwo()) + 1
	case x.IsSum():
		return max(in(x.Left, false), in(x.Right, x.Right.IsSum()))
	}
	return max(in(x.Left, x.Left.IsSum()), in(x.Right, x.Right.IsTwo()))
}

// TestShortLists: all short lists, of the kinds that there are and of others.
func TestShortLists(t *testing.T) {
	for _, c := range []struct {
		kinds []int8
		most  int
	}{
		{samples.Kinds(), 6},
		{append(samples.Kinds(), 0, 7, -1, 127, -128), 4},
		{[]int8{api.TermNumber, api.TermPlus, api.TermOver}, 9},
	} {
		for l := range samples.Lists(c.kinds, c.most) {
			if x := samples.TreeOf(l); x != nil {
				checkDeep(t, l, deepOf(x))
				continue
			}
			checkNoDeep(t, l)
			checkNoValue(t, l, api.ErrSyntax)
			for at := -1; at <= len(l); at++ {
				checkNoLine(t, l, at, api.ErrSyntax)
			}
		}
	}
}

// TestOtherKinds: no kind but the six is one, wherever it stands.
func TestOtherKinds(t *testing.T) {
	for kind := -128; kind <= 127; kind++ {
		if slices.Contains(samples.Kinds(), int8(kind)) {
			continue
		}
		odd := api.Term{Kind: int8(kind), Number: samples.Ratio(1, 1)}
		for _, l := range [][]api.Term{{odd}, {samples.Whole(1), odd}, {odd, samples.Sign(api.TermNeg)}, {samples.Whole(1), samples.Whole(2), odd}, {samples.Whole(1), samples.Whole(2), samples.Sign(api.TermPlus), odd}} {
			checkNoDeep(t, l)
			checkNoValue(t, l, api.ErrSyntax)
			checkNoLine(t, l, 0, api.ErrSyntax)
		}
	}
}

// wrapped is a text in so many brackets.
func wrapped(text string, count int) string {
	return strings.Repeat("(", count) + text + strings.Repeat(")", count)
}

// TestDeepAsFilesHaveIt: an expression as it is written takes just as many
// brackets more as a file's 64 leave to it.
func TestDeepAsFilesHaveIt(t *testing.T) {
	for l := range samples.Expressions(8) {
		text, e := show.Terms(l)
		deep, code := expr.Deep(l)
		if e != api.OK || code != api.OK {
			t.Fatalf("%s: %v, %v", samples.Wording(l), e, code)
		}
		if _, err := parse.Numbers(wrapped(text, api.MaxDeep-deep)); err != nil {
			t.Fatalf("%s is not %d deep: %v", text, deep, err)
		}
		if _, err := parse.Numbers(wrapped(text, api.MaxDeep-deep+1)); err == nil {
			t.Fatalf("%s is less than %d deep", text, deep)
		}
	}
}

// TestChains: how much deeper each step goes; at 64 there are values, at 65
// there are none.
func TestChains(t *testing.T) {
	for step, deep := range map[string]int{
		"x n": 1, "x 2 + 3 *": 1, "x 2 - 3 /": 1, "2 3 x - *": 1, "x 2 + n": 2, "x 2 * n": 2, "x n n": 2, "2 x + n": 2, "x n 2 * n": 3,
		"x 2 +": 0, "x 2 -": 0, "x 2 *": 0, "x 2 /": 0, "x 2 * 3 /": 0,
	} {
		for count := range 80 {
			l := samples.Chain(step, count)
			checkDeep(t, l, deep*count)
			checkTooDeep(t, l, deep*count > 64)
		}
	}
	for _, step := range []string{"2 x +", "2 x -", "2 x *", "2 x /"} {
		for count := 1; count < 80; count++ {
			l := samples.Chain(step, count)
			checkDeep(t, l, count-1)
			checkTooDeep(t, l, count-1 > 64)
		}
	}
}

// checkTooDeep holds an expression that has a value, if it is not too deep,
// against that.
func checkTooDeep(t *testing.T, l []api.Term, tooDeep bool) {
	t.Helper()
	if tooDeep {
		checkNoValue(t, l, api.ErrDeep)
		checkNoLine(t, l, places(l)[0], api.ErrDeep)
		return
	}
	if _, e := expr.Eval(l); e != api.OK {
		t.Fatalf("Eval(%.200s): %v", samples.Wording(l), e)
	}
	if _, e := expr.Line(l, places(l)[0]); e != api.OK {
		t.Fatalf("Line(%.200s): %v", samples.Wording(l), e)
	}
}

// TestGrownDeep: made expressions, among them many that are about 64 deep.
func TestGrownDeep(t *testing.T) {
	source := rand.New(rand.NewSource(9))
	const count = 1500
	deep := 0
	for range count {
		l := samples.Piled(source.Intn, samples.Grown(source.Intn, source.Intn(12)), source.Intn(150))
		want := deepOf(samples.TreeOf(l))
		checkDeep(t, l, want)
		_, shown := show.Terms(l)
		if (shown == api.ErrDeep) != (want > api.MaxDeep) {
			t.Fatalf("%.200s is %d deep, and %v", samples.Wording(l), want, shown)
		}
		if want > api.MaxDeep {
			deep++
			checkNoValue(t, l, api.ErrDeep)
			checkNoLine(t, l, -1, api.ErrDeep)
		}
	}
	if deep < count/10 || deep > count*9/10 {
		t.Errorf("%d of %d are too deep", deep, count)
	}
}

// TestLongLists: lists that are long, deep or not, take no deep stack.
func TestLongLists(t *testing.T) {
	defer debug.SetMaxStack(debug.SetMaxStack(1 << 20))
	const count = 200000
	one, two, plus, minus, neg := samples.Whole(1), samples.Whole(2), samples.Sign(api.TermPlus), samples.Sign(api.TermMinus), samples.Sign(api.TermNeg)
	long := func(step ...api.Term) []api.Term {
		return append([]api.Term{one}, slices.Repeat(step, count)...)
	}
	negs := long(neg)
	checkDeep(t, negs, count)
	checkNoValue(t, negs, api.ErrDeep)
	checkNoLine(t, negs, 0, api.ErrDeep)
	right := append(long(two), slices.Repeat([]api.Term{plus}, count)...)
	checkDeep(t, right, count-1)
	checkNoValue(t, right, api.ErrDeep)
	left := long(two, minus)
	checkDeep(t, left, 0)
	checkValue(t, left, samples.Ratio(1-2*count, 1))
	checkLine(t, left, 0, "1 -400000 0 1")
	checkLine(t, left, 2*count-1, "-1 -399997 0 1")
	for _, l := range [][]api.Term{long(two), long(minus), right[:2*count], append(right, plus)} {
		checkNoDeep(t, l)
		checkNoValue(t, l, api.ErrSyntax)
		checkNoLine(t, l, 0, api.ErrSyntax)
	}
}
