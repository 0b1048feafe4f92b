package show_test

import (
	"math/rand"
	"runtime/debug"
	"slices"
	"strconv"
	"strings"
	"testing"

	"credence/api"
	"credence/decimal"
	"credence/frac"
	"credence/nat"
	"credence/parse"
	"credence/samples"
	"credence/show"
)

// 8.1: Terms.

func TestExamplesOfTerms(t *testing.T) {
	for list, want := range map[string]string{
		"1 2 + 3 *": "(1 + 2)*3", "1 2 3 * +": "1 + 2*3", "1 2 3 - -": "1 - (2 - 3)", "1 2 - 3 -": "1 - 2 - 3",
		"1 n": "-1", "1 n n": "--1", "1 2 + n": "-(1 + 2)", "1 2 n /": "1/-2", "1 2 3 / /": "1/(2/3)", "1 n 2 *": "-1*2", "1 2 * n": "-(1*2)",
		"1/8": "0.125", "1000000000000000000000": "1000000000000000000000",
		"1" + strings.Repeat(" n", 64): strings.Repeat("-", 64) + "1",
	} {
		checkTerms(t, samples.Terms(list), want)
	}
	for _, list := range []string{"1/3", "-1"} {
		checkNoTerms(t, samples.Terms(list), api.ErrNumber)
	}
	for _, list := range []string{"", "1 2", "+", "1 +", "k7"} {
		checkNoTerms(t, samples.Terms(list), api.ErrSyntax)
	}
	one := samples.Whole(1)
	one.Kind = 7
	checkNoTerms(t, []api.Term{one}, api.ErrSyntax)
	checkNoTerms(t, samples.Terms("1"+strings.Repeat(" n", 65)), api.ErrDeep)
}

func TestBrackets(t *testing.T) {
	for list, want := range map[string]string{
		"7": "7", "1 2 +": "1 + 2", "1 2 -": "1 - 2", "1 2 *": "1*2", "1 2 /": "1/2",
		"1 2 3 + +": "1 + (2 + 3)", "1 2 3 - +": "1 + (2 - 3)", "1 2 3 + -": "1 - (2 + 3)", "1 2 + 3 +": "1 + 2 + 3", "1 2 + 3 -": "1 + 2 - 3",
		"1 2 3 * -": "1 - 2*3", "1 2 3 / +": "1 + 2/3", "1 2 * 3 +": "1*2 + 3", "1 2 / 3 -": "1/2 - 3", "1 2 - 3 /": "(1 - 2)/3", "1 2 3 + *": "1*(2 + 3)",
		"1 2 3 * *": "1*(2*3)", "1 2 3 / *": "1*(2/3)", "1 2 3 * /": "1/(2*3)", "1 2 * 3 *": "1*2*3", "1 2 / 3 /": "1/2/3", "1 2 * 3 /": "1*2/3",
		"1 2 n -": "1 - -2", "1 2 n +": "1 + -2", "1 n 2 -": "-1 - 2", "1 2 n *": "1*-2", "1 n 2 n /": "-1/-2", "1 2 n n -": "1 - --2",
		"1 2 - n": "-(1 - 2)", "1 2 / n": "-(1/2)", "1 2 + n n": "--(1 + 2)", "1 2 3 + n -": "1 - -(2 + 3)", "1 2 3 * n /": "1/-(2*3)", "1 2 + n 3 *": "-(1 + 2)*3",
		"1 2 + 3 4 - *": "(1 + 2)*(3 - 4)", "1 2 3 + 4 * -": "1 - (2 + 3)*4", "1 2 3 4 - - -": "1 - (2 - (3 - 4))", "1 2 3 4 5 * - * +": "1 + 2*(3 - 4*5)",
	} {
		checkTerms(t, samples.Terms(list), want)
	}
}

// within is a text with a bracket about it, or without.
func within(bracket bool, text string) string {
	if bracket {
		return "(" + text + ")"
	}
	return text
}

// treeText is the text of a tree, as the chapter's 'Words' have it.
func treeText(x *samples.Tree) string {
	switch x.Kind {
	case api.TermNumber:
		text, _ := decimal.Exact(x.Number)
		return text
	case api.TermNeg:
		return "-" + within(x.Right.IsTwo(), treeText(x.Right))
	}
	between := map[int8]string{api.TermPlus: " + ", api.TermMinus: " - ", api.TermTimes: "*", api.TermOver: "/"}[x.Kind]
	if x.IsSum() {
		return treeText(x.Left) + between + within(x.Right.IsSum(), treeText(x.Right))
	}
	return within(x.Left.IsSum(), treeText(x.Left)) + between + within(x.Right.IsTwo(), treeText(x.Right))
}

// TestShortLists: all short lists, of the kinds that there are and of others.
func TestShortLists(t *testing.T) {
	for _, c := range []struct {
		kinds []int8
		most  int
	}{
		{samples.Kinds(), 6},
		{append(samples.Kinds(), 0, 7, -1, 127, -128), 4},
		{[]int8{api.TermNumber, api.TermMinus, api.TermOver}, 9},
	} {
		for l := range samples.Lists(c.kinds, c.most) {
			if x := samples.TreeOf(l); x != nil {
				checkTerms(t, l, treeText(x))
				continue
			}
			checkNoTerms(t, l, api.ErrSyntax)
		}
	}
}

// TestShortExpressions: all short expressions.
func TestShortExpressions(t *testing.T) {
	count := 0
	for l := range samples.Expressions(9) {
		checkTerms(t, l, treeText(samples.TreeOf(l)))
		count++
	}
	// Of 1 to 9 terms: by the number of signs of one and of two.
	if count != 1+1+5+13+57+201+861+3445+14897 {
		t.Errorf("%d expressions", count)
	}
}

// TestSignsWithNumbers: of a sign the number counts for nothing.
func TestSignsWithNumbers(t *testing.T) {
	for _, a := range []api.Rat{ratio(1, 3), ratio(-1, 1), ratio(5, 1), ratio(-2, 0)} {
		for l := range samples.Lists(samples.Kinds(), 5) {
			odd := slices.Clone(l)
			for i := range odd {
				if odd[i].Kind != api.TermNumber {
					odd[i].Number = a
				}
			}
			want, code := show.Terms(l)
			if got, e := show.Terms(odd); got != want || e != code {
				t.Fatalf("Terms(%s): %q, %v, want %q, %v", samples.Wording(l), got, e, want, code)
			}
		}
	}
}

func TestNumbersOfTerms(t *testing.T) {
	power, e := nat.Pow(nat.Of(2), 1024)
	if e != api.OK {
		t.Fatal(e)
	}
	most := nat.Mul(nat.Mul(power, power), nat.Mul(power, power))
	small := api.Rat{Num: api.Int{Mag: nat.Of(1)}, Den: most}
	smaller := api.Rat{Num: api.Int{Mag: nat.Of(1)}, Den: nat.Mul(most, nat.Of(2))}
	if got, e := show.Terms([]api.Term{samples.Number(small)}); e != api.OK || len(got) != 4096+len("0.") || !strings.HasPrefix(got, "0.000") {
		t.Errorf("1 over 2^4096: %d bytes, %v", len(got), e)
	}
	checkNoTerms(t, []api.Term{samples.Number(smaller)}, api.ErrNumber)
	for _, c := range []struct {
		a    api.Rat
		want string
	}{
		{api.Rat{}, "0"}, {ratio(0, 5), "0"}, {api.Rat{Num: api.Int{Neg: true}}, "0"}, {api.Rat{Num: api.Int{Neg: true, Mag: api.Nat{0, 0}}, Den: api.Nat{3, 0}}, "0"},
		{ratio(3, 6), "0.5"}, {ratio(3, 0), "3"}, {ratio(12, 4), "3"}, {ratio(7, 7), "1"}, {ratio(21, 14), "1.5"}, {ratio(1, 1000), "0.001"},
		{api.Rat{Num: api.Int{Mag: api.Nat{5, 0, 0}}, Den: api.Nat{2, 0}}, "2.5"}, {ratio(123456789, 1000), "123456.789"},
	} {
		checkTerms(t, []api.Term{samples.Number(c.a)}, c.want)
		checkTerms(t, []api.Term{samples.Number(c.a), samples.Sign(api.TermNeg)}, "-"+c.want)
		checkTerms(t, []api.Term{samples.Whole(1), samples.Number(c.a), samples.Sign(api.TermMinus)}, "1 - "+c.want)
	}
	for _, a := range []api.Rat{ratio(1, 3), ratio(2, 6), ratio(-1, 1), ratio(-1, 8), ratio(-1, 3), ratio(-3, 0), ratio(1, 7), ratio(22, 7), ratio(-2, 4)} {
		checkNoTerms(t, []api.Term{samples.Number(a)}, api.ErrNumber)
		checkNoTerms(t, []api.Term{samples.Number(a), samples.Whole(1), samples.Sign(api.TermPlus)}, api.ErrNumber)
		checkNoTerms(t, []api.Term{samples.Whole(1), samples.Whole(1), samples.Number(a), samples.Sign(api.TermPlus), samples.Sign(api.TermOver), samples.Sign(api.TermNeg)}, api.ErrNumber)
	}
}

// TestManyNumbers: each number is what decimal.Exact has, if it is not below 0.
func TestManyNumbers(t *testing.T) {
	edges := samples.EdgeNats()
	for _, a := range samples.Rats(samples.Ints(edges), append(edges[:20:20], nat.Of(1), nat.Of(10), nat.Of(3), nat.Of(1<<40), nat.Of(1220703125))) {
		want, ok := decimal.Exact(a)
		if !ok || frac.Cmp(a, api.Rat{}) < 0 {
			checkNoTerms(t, []api.Term{samples.Number(a)}, api.ErrNumber)
			continue
		}
		checkTerms(t, []api.Term{samples.Number(a)}, want)
	}
}

// TestOrderOfErrors: what is no expression comes ahead of its numbers, these
// ahead of how deep it is.
func TestOrderOfErrors(t *testing.T) {
	for _, list := range []string{"1/3 +", "-1 1", "1/3 k7", "k7 1/3", "-1 2 3 +", "1/3" + strings.Repeat(" n", 65) + " +", "-1" + strings.Repeat(" n", 65) + " 2", "1" + strings.Repeat(" n", 65) + " *", strings.Repeat("1 ", 70) + strings.Repeat("- ", 68)} {
		checkNoTerms(t, samples.Terms(list), api.ErrSyntax)
	}
	for _, list := range []string{"1/3" + strings.Repeat(" n", 65), "-1" + strings.Repeat(" n", 65), "1" + strings.Repeat(" n", 65) + " 1/3 +", strings.Repeat("1 ", 70) + "1/3 " + strings.Repeat("- ", 70)} {
		checkNoTerms(t, samples.Terms(list), api.ErrNumber)
	}
}

// TestDeep: how deep each step goes; at 64 there is a text, at 65 none.
func TestDeep(t *testing.T) {
	for step, deep := range map[string]int{
		"x n": 1, "2 x +": 1, "2 x -": 1, "2 x *": 1, "2 x /": 1, "x 2 + 3 *": 1, "x 2 - 3 /": 1, "2 x 3 * -": 1, "2 3 x * +": 1, "2 x 3 + *": 1,
		"x 2 + n": 2, "x 2 * n": 2, "2 x n +": 2, "x n n": 2, "2 x + n": 2, "x n 2 * n": 3,
	} {
		count := 64/deep + 2
		for n := range count + 1 {
			l := samples.Chain(step, n)
			text := treeText(samples.TreeOf(l))
			if _, err := parse.Numbers(text); err == nil {
				checkTerms(t, l, text)
			} else {
				checkNoTerms(t, l, api.ErrDeep)
			}
		}
		checkNoTerms(t, samples.Chain(step, count), api.ErrDeep)
	}
	checkTerms(t, samples.Chain("2 x -", 65), strings.Repeat("2 - (", 64)+"2 - 1"+strings.Repeat(")", 64))
	checkNoTerms(t, samples.Chain("2 x -", 66), api.ErrDeep)
	checkTerms(t, samples.Chain("x 2 + n", 32), strings.Repeat("-(", 32)+"1"+strings.Repeat(" + 2)", 32))
	checkNoTerms(t, append(samples.Chain("x 2 + n", 32), samples.Sign(api.TermNeg)), api.ErrDeep)
}

// TestGrown: made expressions, among them many that are about 64 deep.
func TestGrown(t *testing.T) {
	source := rand.New(rand.NewSource(8))
	deep := 0
	const count = 1500
	for range count {
		l := samples.Piled(source.Intn, samples.Grown(source.Intn, source.Intn(12)), source.Intn(150))
		text := treeText(samples.TreeOf(l))
		if _, err := parse.Numbers(text); err != nil {
			checkNoTerms(t, l, api.ErrDeep)
			deep++
			continue
		}
		checkTerms(t, l, text)
	}
	if deep < count/10 || deep > count*9/10 {
		t.Errorf("%d of %d are too deep", deep, count)
	}
}

// TestLongTerms: expressions that are long and not deep take no deep stack.
func TestLongTerms(t *testing.T) {
	defer debug.SetMaxStack(debug.SetMaxStack(1 << 22))
	const count = 100000
	long := func(step ...api.Term) []api.Term {
		return append([]api.Term{samples.Whole(1)}, slices.Repeat(step, count)...)
	}
	two, minus, over, neg := samples.Whole(2), samples.Sign(api.TermMinus), samples.Sign(api.TermOver), samples.Sign(api.TermNeg)
	checkTerms(t, long(two, minus), "1"+strings.Repeat(" - 2", count))
	checkTerms(t, long(two, over), "1"+strings.Repeat("/2", count))
	checkTerms(t, long(two, two, over, neg, minus), "1"+strings.Repeat(" - -(2/2)", count))
	checkTerms(t, append(long(two, over), neg), "-(1"+strings.Repeat("/2", count)+")")
	checkNoTerms(t, long(neg), api.ErrDeep)
	checkNoTerms(t, long(two, minus, two, over), api.ErrDeep)
	checkNoTerms(t, append(long(two), slices.Repeat([]api.Term{minus}, count)...), api.ErrDeep)
	checkNoTerms(t, long(two), api.ErrSyntax)
	checkNoTerms(t, long(minus), api.ErrSyntax)
	checkNoTerms(t, append(long(two, minus), samples.Number(ratio(1, 3)), minus), api.ErrNumber)
	digits := strings.Repeat("7", 10000)
	size, e := nat.Parse(digits)
	if e != api.OK {
		t.Fatal(e)
	}
	checkTerms(t, []api.Term{samples.Number(api.Rat{Num: api.Int{Mag: size}}), neg}, "-"+digits)
}

// TestNilLists: nil and no elements are the same.
func TestNilLists(t *testing.T) {
	checkNoTerms(t, nil, api.ErrSyntax)
	checkNoTerms(t, []api.Term{}, api.ErrSyntax)
	checkTerms(t, []api.Term{samples.Number(api.Rat{Num: api.Int{Mag: api.Nat{}}, Den: api.Nat{}})}, "0")
	checkTerms(t, samples.Terms(strconv.Itoa(1<<62)), "4611686018427387904")
}
