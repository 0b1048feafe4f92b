package show_test

import (
	"iter"
	"math"
	"math/rand"
	"runtime/debug"
	"slices"
	"strconv"
	"strings"
	"testing"

	"credence/api"
	"credence/decimal"
	"credence/frac"
	"credence/nat"
	"credence/parse"
	"credence/samples"
	"credence/show"
)

// 8.1: Terms.

func TestExamplesOfTerms(t *testing.T) {
	for list, want := range map[string]string{
		"1 2 + 3 *": "(1 + 2)*3", "1 2 3 * +": "1 + 2*3", "1 2 3 - -": "1 - (2 - 3)", "1 2 - 3 -": "1 - 2 - 3",
		"1 n": "-1", "1 n n": "--1", "1 2 + n": "-(1 + 2)", "1 2 n /": "1/-2", "1 2 3 / /": "1/(2/3)", "1 n 2 *": "-1*2", "1 2 * n": "-(1*2)",
		"1/8": "0.125", "1000000000000000000000": "1000000000000000000000",
		"1" + strings.Repeat(" n", 64): strings.Repeat("-", 64) + "1",
	} {
		checkTerms(t, terms(t, list), want)
	}
	for _, list := range []string{"1/3", "-1"} {
		checkNoTerms(t, terms(t, list), api.ErrNumber)
	}
	for _, list := range []string{"", "1 2", "+", "1 +", "k7"} {
		checkNoTerms(t, terms(t, list), api.ErrSyntax)
	}
	one := whole(1)
	one.Kind = 7
	checkNoTerms(t, []api.Term{one}, api.ErrSyntax)
	checkNoTerms(t, terms(t, "1"+strings.Repeat(" n", 65)), api.ErrDeep)
}

func TestBrackets(t *testing.T) {
	for list, want := range map[string]string{
		"7": "7", "1 2 +": "1 + 2", "1 2 -": "1 - 2", "1 2 *": "1*2", "1 2 /": "1/2",
		"1 2 3 + +": "1 + (2 + 3)", "1 2 3 - +": "1 + (2 - 3)", "1 2 3 + -": "1 - (2 + 3)", "1 2 + 3 +": "1 + 2 + 3", "1 2 + 3 -": "1 + 2 - 3",
		"1 2 3 * -": "1 - 2*3", "1 2 3 / +": "1 + 2/3", "1 2 * 3 +": "1*2 + 3", "1 2 / 3 -": "1/2 - 3", "1 2 - 3 /": "(1 - 2)/3", "1 2 3 + *": "1*(2 + 3)",
		"1 2 3 * *": "1*(2*3)", "1 2 3 / *": "1*(2/3)", "1 2 3 * /": "1/(2*3)", "1 2 * 3 *": "1*2*3", "1 2 / 3 /": "1/2/3", "1 2 * 3 /": "1*2/3",
		"1 2 n -": "1 - -2", "1 2 n +": "1 + -2", "1 n 2 -": "-1 - 2", "1 2 n *": "1*-2", "1 n 2 n /": "-1/-2", "1 2 n n -": "1 - --2",
		"1 2 - n": "-(1 - 2)", "1 2 / n": "-(1/2)", "1 2 + n n": "--(1 + 2)", "1 2 3 + n -": "1 - -(2 + 3)", "1 2 3 * n /": "1/-(2*3)", "1 2 + n 3 *": "-(1 + 2)*3",
		"1 2 + 3 4 - *": "(1 + 2)*(3 - 4)", "1 2 3 + 4 * -": "1 - (2 + 3)*4", "1 2 3 4 - - -": "1 - (2 - (3 - 4))", "1 2 3 4 5 * - * +": "1 + 2*(3 - 4*5)",
	} {
		checkTerms(t, terms(t, list), want)
	}
}

// tree is an expression by its parts.
type tree struct {
	kind        int8
	number      api.Rat
	left, right *tree // the - of one has the right one alone
}

// isSum and isTwo are whether it is a + or - of two, and any sign of two.
func (x *tree) isSum() bool { return x.kind == api.TermPlus || x.kind == api.TermMinus }
func (x *tree) isTwo() bool { return x.isSum() || x.kind == api.TermTimes || x.kind == api.TermOver }

// takes is how many a term takes from the pile; one of no kind takes more than
// there ever are.
func takes(kind int8) int {
	switch kind {
	case api.TermNumber:
		return 0
	case api.TermNeg:
		return 1
	case api.TermPlus, api.TermMinus, api.TermTimes, api.TermOver:
		return 2
	}
	return math.MaxInt
}

// treeOf is the tree of a list, found with a pile; nil, if it is no expression.
func treeOf(l []api.Term) *tree {
	var pile []*tree
	for _, term := range l {
		x := &tree{kind: term.Kind, number: term.Number}
		count := takes(term.Kind)
		if len(pile) < count {
			return nil
		}
		if count > 0 {
			x.right = pile[len(pile)-1]
		}
		if count > 1 {
			x.left = pile[len(pile)-2]
		}
		pile = append(pile[:len(pile)-count:len(pile)-count], x)
	}
	if len(pile) != 1 {
		return nil
	}
	return pile[0]
}

// within is a text with a bracket about it, or without.
func within(bracket bool, text string) string {
	if bracket {
		return "(" + text + ")"
	}
	return text
}

// text is the text of a tree, as the chapter's 'Words' have it.
func (x *tree) text() string {
	switch x.kind {
	case api.TermNumber:
		text, _ := decimal.Exact(x.number)
		return text
	case api.TermNeg:
		return "-" + within(x.right.isTwo(), x.right.text())
	}
	between := map[int8]string{api.TermPlus: " + ", api.TermMinus: " - ", api.TermTimes: "*", api.TermOver: "/"}[x.kind]
	if x.isSum() {
		return x.left.text() + between + within(x.right.isSum(), x.right.text())
	}
	return within(x.left.isSum(), x.left.text()) + between + within(x.right.isTwo(), x.right.text())
}

// lists goes over all lists of up to most terms of some kinds; the numbers are
// 1, 2, 3 and so on.
func lists(kinds []int8, most int) iter.Seq[[]api.Term] {
	return func(yield func([]api.Term) bool) {
		var grow func(l []api.Term, next int) bool
		grow = func(l []api.Term, next int) bool {
			if !yield(l) {
				return false
			}
			for _, kind := range kinds {
				x, after := sign(kind), next
				if kind == api.TermNumber {
					x, after = whole(next), next+1
				}
				if len(l) < most && !grow(append(l[:len(l):len(l)], x), after) {
					return false
				}
			}
			return true
		}
		grow(nil, 1)
	}
}

// expressions goes over all expressions of up to most terms; the numbers are
// 1, 2, 3 and so on.
func expressions(most int) iter.Seq[[]api.Term] {
	return func(yield func([]api.Term) bool) {
		var grow func(l []api.Term, high, next int) bool
		grow = func(l []api.Term, high, next int) bool {
			if high == 1 && !yield(l) {
				return false
			}
			for _, kind := range kinds() {
				x, after := sign(kind), next
				if kind == api.TermNumber {
					x, after = whole(next), next+1
				}
				pile := high - takes(kind) + 1
				if high < takes(kind) || len(l)+pile > most {
					continue
				}
				if !grow(append(l[:len(l):len(l)], x), pile, after) {
					return false
				}
			}
			return true
		}
		grow(nil, 0, 1)
	}
}

// kinds are those that there are.
func kinds() []int8 {
	return []int8{api.TermNumber, api.TermPlus, api.TermMinus, api.TermTimes, api.TermOver, api.TermNeg}
}

// TestShortLists: all short lists, of the kinds that there are and of others.
func TestShortLists(t *testing.T) {
	for _, c := range []struct {
		kinds []int8
		most  int
	}{
		{kinds(), 6},
		{append(kinds(), 0, 7, -1, 127, -128), 4},
		{[]int8{api.TermNumber, api.TermMinus, api.TermOver}, 9},
	} {
		for l := range lists(c.kinds, c.most) {
			if x := treeOf(l); x != nil {
				checkTerms(t, l, x.text())
				continue
			}
			checkNoTerms(t, l, api.ErrSyntax)
		}
	}
}

// TestShortExpressions: all short expressions.
func TestShortExpressions(t *testing.T) {
	count := 0
	for l := range expressions(9) {
		checkTerms(t, l, treeOf(l).text())
		count++
	}
	// Of 1 to 9 terms: by the number of signs of one and of two.
	if count != 1+1+5+13+57+201+861+3445+14897 {
		t.Errorf("%d expressions", count)
	}
}

// TestSignsWithNumbers: of a sign the number counts for nothing.
func TestSignsWithNumbers(t *testing.T) {
	for _, a := range []api.Rat{ratio(1, 3), ratio(-1, 1), ratio(5, 1), ratio(-2, 0)} {
		for l := range lists(kinds(), 5) {
			odd := slices.Clone(l)
			for i := range odd {
				if odd[i].Kind != api.TermNumber {
					odd[i].Number = a
				}
			}
			want, code := show.Terms(l)
			if got, e := show.Terms(odd); got != want || e != code {
				t.Fatalf("Terms(%s): %q, %v, want %q, %v", wording(l), got, e, want, code)
			}
		}
	}
}

func TestNumbersOfTerms(t *testing.T) {
	power, e := nat.Pow(nat.Of(2), 1024)
	if e != api.OK {
		t.Fatal(e)
	}
	most := nat.Mul(nat.Mul(power, power), nat.Mul(power, power))
	small := api.Rat{Num: api.Int{Mag: nat.Of(1)}, Den: most}
	smaller := api.Rat{Num: api.Int{Mag: nat.Of(1)}, Den: nat.Mul(most, nat.Of(2))}
	if got, e := show.Terms([]api.Term{number(small)}); e != api.OK || len(got) != 4096+len("0.") || !strings.HasPrefix(got, "0.000") {
		t.Errorf("1 over 2^4096: %d bytes, %v", len(got), e)
	}
	checkNoTerms(t, []api.Term{number(smaller)}, api.ErrNumber)
	for _, c := range []struct {
		a    api.Rat
		want string
	}{
		{api.Rat{}, "0"}, {ratio(0, 5), "0"}, {api.Rat{Num: api.Int{Neg: true}}, "0"}, {api.Rat{Num: api.Int{Neg: true, Mag: api.Nat{0, 0}}, Den: api.Nat{3, 0}}, "0"},
		{ratio(3, 6), "0.5"}, {ratio(3, 0), "3"}, {ratio(12, 4), "3"}, {ratio(7, 7), "1"}, {ratio(21, 14), "1.5"}, {ratio(1, 1000), "0.001"},
		{api.Rat{Num: api.Int{Mag: api.Nat{5, 0, 0}}, Den: api.Nat{2, 0}}, "2.5"}, {ratio(123456789, 1000), "123456.789"},
	} {
		checkTerms(t, []api.Term{number(c.a)}, c.want)
		checkTerms(t, []api.Term{number(c.a), sign(api.TermNeg)}, "-"+c.want)
		checkTerms(t, []api.Term{whole(1), number(c.a), sign(api.TermMinus)}, "1 - "+c.want)
	}
	for _, a := range []api.Rat{ratio(1, 3), ratio(2, 6), ratio(-1, 1), ratio(-1, 8), ratio(-1, 3), ratio(-3, 0), ratio(1, 7), ratio(22, 7), ratio(-2, 4)} {
		checkNoTerms(t, []api.Term{number(a)}, api.ErrNumber)
		checkNoTerms(t, []api.Term{number(a), whole(1), sign(api.TermPlus)}, api.ErrNumber)
		checkNoTerms(t, []api.Term{whole(1), whole(1), number(a), sign(api.TermPlus), sign(api.TermOver), sign(api.TermNeg)}, api.ErrNumber)
	}
}

// TestManyNumbers: each number is what decimal.Exact has, if it is not below 0.
func TestManyNumbers(t *testing.T) {
	edges := samples.EdgeNats()
	for _, a := range samples.Rats(samples.Ints(edges), append(edges[:20:20], nat.Of(1), nat.Of(10), nat.Of(3), nat.Of(1<<40), nat.Of(1220703125))) {
		want, ok := decimal.Exact(a)
		if !ok || frac.Cmp(a, api.Rat{}) < 0 {
			checkNoTerms(t, []api.Term{number(a)}, api.ErrNumber)
			continue
		}
		checkTerms(t, []api.Term{number(a)}, want)
	}
}

// TestOrderOfErrors: what is no expression comes ahead of its numbers, these
// ahead of how deep it is.
func TestOrderOfErrors(t *testing.T) {
	for _, list := range []string{"1/3 +", "-1 1", "1/3 k7", "k7 1/3", "-1 2 3 +", "1/3" + strings.Repeat(" n", 65) + " +", "-1" + strings.Repeat(" n", 65) + " 2", "1" + strings.Repeat(" n", 65) + " *", strings.Repeat("1 ", 70) + strings.Repeat("- ", 68)} {
		checkNoTerms(t, terms(t, list), api.ErrSyntax)
	}
	for _, list := range []string{"1/3" + strings.Repeat(" n", 65), "-1" + strings.Repeat(" n", 65), "1" + strings.Repeat(" n", 65) + " 1/3 +", strings.Repeat("1 ", 70) + "1/3 " + strings.Repeat("- ", 70)} {
		checkNoTerms(t, terms(t, list), api.ErrNumber)
	}
}

// chain is an expression that is grown from 1 step by step; x is where the
// one before goes.
func chain(t *testing.T, step string, count int) []api.Term {
	t.Helper()
	ahead, behind, ok := strings.Cut(step, "x")
	if !ok {
		t.Fatalf("%s is no step", step)
	}
	return terms(t, strings.Repeat(ahead+" ", count)+"1 "+strings.Repeat(behind+" ", count))
}

// TestDeep: how deep each step goes; at 64 there is a text, at 65 none.
func TestDeep(t *testing.T) {
	for step, deep := range map[string]int{
		"x n": 1, "2 x +": 1, "2 x -": 1, "2 x *": 1, "2 x /": 1, "x 2 + 3 *": 1, "x 2 - 3 /": 1, "2 x 3 * -": 1, "2 3 x * +": 1, "2 x 3 + *": 1,
		"x 2 + n": 2, "x 2 * n": 2, "2 x n +": 2, "x n n": 2, "2 x + n": 2, "x n 2 * n": 3,
	} {
		count := 64/deep + 2
		for n := range count + 1 {
			l := chain(t, step, n)
			text := treeOf(l).text()
			if _, err := parse.Numbers(text); err == nil {
				checkTerms(t, l, text)
			} else {
				checkNoTerms(t, l, api.ErrDeep)
			}
		}
		checkNoTerms(t, chain(t, step, count), api.ErrDeep)
	}
	checkTerms(t, chain(t, "2 x -", 65), strings.Repeat("2 - (", 64)+"2 - 1"+strings.Repeat(")", 64))
	checkNoTerms(t, chain(t, "2 x -", 66), api.ErrDeep)
	checkTerms(t, chain(t, "x 2 + n", 32), strings.Repeat("-(", 32)+"1"+strings.Repeat(" + 2)", 32))
	checkNoTerms(t, append(chain(t, "x 2 + n", 32), sign(api.TermNeg)), api.ErrDeep)
}

// grown are the terms of a made expression with so many signs.
func grown(source *rand.Rand, signs int) []api.Term {
	if signs == 0 {
		return []api.Term{number([]api.Rat{ratio(1, 1), ratio(1, 4), ratio(300, 1), ratio(0, 1), ratio(31, 10)}[source.Intn(5)])}
	}
	kind := kinds()[source.Intn(5)+1]
	if kind == api.TermNeg {
		return append(grown(source, signs-1), sign(kind))
	}
	left := source.Intn(signs)
	return append(append(grown(source, left), grown(source, signs-1-left)...), sign(kind))
}

// piled is an expression with so many signs about it, and small expressions
// beside it on the way.
func piled(source *rand.Rand, l []api.Term, signs int) []api.Term {
	for range signs {
		kind := kinds()[source.Intn(5)+1]
		beside := grown(source, source.Intn(3))
		switch {
		case kind == api.TermNeg:
			l = append(l, sign(kind))
		case source.Intn(3) == 0:
			l = append(append(l, beside...), sign(kind))
		default:
			l = append(append(beside, l...), sign(kind))
		}
	}
	return l
}

// TestGrown: made expressions, among them many that are about 64 deep.
func TestGrown(t *testing.T) {
	source := rand.New(rand.NewSource(8))
	deep := 0
	const count = 1500
	for range count {
		l := piled(source, grown(source, source.Intn(12)), source.Intn(150))
		text := treeOf(l).text()
		if _, err := parse.Numbers(text); err != nil {
			checkNoTerms(t, l, api.ErrDeep)
			deep++
			continue
		}
		checkTerms(t, l, text)
	}
	if deep < count/10 || deep > count*9/10 {
		t.Errorf("%d of %d are too deep", deep, count)
	}
}

// TestLongTerms: expressions that are long and not deep take no deep stack.
func TestLongTerms(t *testing.T) {
	defer debug.SetMaxStack(debug.SetMaxStack(1 << 22))
	const count = 100000
	long := func(step ...api.Term) []api.Term {
		return append([]api.Term{whole(1)}, slices.Repeat(step, count)...)
	}
	two, minus, over, neg := whole(2), sign(api.TermMinus), sign(api.TermOver), sign(api.TermNeg)
	checkTerms(t, long(two, minus), "1"+strings.Repeat(" - 2", count))
	checkTerms(t, long(two, over), "1"+strings.Repeat("/2", count))
	checkTerms(t, long(two, two, over, neg, minus), "1"+strings.Repeat(" - -(2/2)", count))
	checkTerms(t, append(long(two, over), neg), "-(1"+strings.Repeat("/2", count)+")")
	checkNoTerms(t, long(neg), api.ErrDeep)
	checkNoTerms(t, long(two, minus, two, over), api.ErrDeep)
	checkNoTerms(t, append(long(two), slices.Repeat([]api.Term{minus}, count)...), api.ErrDeep)
	checkNoTerms(t, long(two), api.ErrSyntax)
	checkNoTerms(t, long(minus), api.ErrSyntax)
	checkNoTerms(t, append(long(two, minus), number(ratio(1, 3)), minus), api.ErrNumber)
	digits := strings.Repeat("7", 10000)
	size, e := nat.Parse(digits)
	if e != api.OK {
		t.Fatal(e)
	}
	checkTerms(t, []api.Term{number(api.Rat{Num: api.Int{Mag: size}}), neg}, "-"+digits)
}

// TestNilLists: nil and no elements are the same.
func TestNilLists(t *testing.T) {
	checkNoTerms(t, nil, api.ErrSyntax)
	checkNoTerms(t, []api.Term{}, api.ErrSyntax)
	checkTerms(t, []api.Term{number(api.Rat{Num: api.Int{Mag: api.Nat{}}, Den: api.Nat{}})}, "0")
	checkTerms(t, terms(t, strconv.Itoa(1<<62)), "4611686018427387904")
}
