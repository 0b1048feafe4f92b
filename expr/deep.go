package expr

import "credence/api"

// How firmly a part holds together. It stands in brackets where a firmer one
// must stand.
const (
	sum     = iota // a + or - of two
	product        // a * or / of two
	unary          // a number, or the - of one
)

// nested is what counts of a part for how deep all is.
type nested struct{ bond, deep int }

// deepAs is how deep a part is where one that holds together so must stand.
func (p nested) deepAs(bond int) int {
	if p.bond < bond {
		return p.deep + 1
	}
	return p.deep
}

// depths are the ways to how deep an expression is.
type depths struct{}

// number is what a number is.
func (depths) number(int, api.Rat) nested { return nested{bond: unary} }

// neg is the opposite of a part.
func (depths) neg(part nested) nested {
	return nested{bond: unary, deep: part.deepAs(unary) + 1}
}

// two is what a sign makes of two parts. The right one must be firmer than
// the sign: else the left one's sign would take it first.
func (depths) two(kind int8, left, right nested) (nested, api.Errno) {
	bond := sum
	if kind == api.TermTimes || kind == api.TermOver {
		bond = product
	}
	return nested{bond: bond, deep: max(left.deepAs(bond), right.deepAs(bond+1))}, api.OK
}
