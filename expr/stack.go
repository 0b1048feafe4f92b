package expr

import "credence/api"

// ways tell what is made of each term of an expression.
type ways[T any] interface {
	number(at int, a api.Rat) T
	neg(part T) T
	two(kind int8, left, right T) (T, api.Errno)
}

// workOut makes one thing of a whole list, if it is an expression. What is
// made waits on a stack for the sign that takes it: lists may be far longer
// than calls can be nested.
func workOut[T any](l []api.Term, how ways[T]) (T, api.Errno) {
	var none T
	var stack []T
	for at, term := range l {
		high := len(stack)
		switch term.Kind {
		case api.TermNumber:
			stack = append(stack, how.number(at, term.Number))
		case api.TermNeg:
			if high < 1 {
				return none, api.ErrSyntax
			}
			stack[high-1] = how.neg(stack[high-1])
		case api.TermPlus, api.TermMinus, api.TermTimes, api.TermOver:
			if high < 2 {
				return none, api.ErrSyntax
			}
			both, code := how.two(term.Kind, stack[high-2], stack[high-1])
			if code != api.OK {
				return none, code
			}
			stack = append(stack[:high-2], both)
		default:
			return none, api.ErrSyntax
		}
	}
	if len(stack) != 1 {
		return none, api.ErrSyntax
	}
	return stack[0], api.OK
}
