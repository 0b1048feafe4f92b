package nat

import "credence/api"

// Root is the square root, rounded down.
func Root(a api.Nat) api.Nat {
	a = trim(a)
	if len(a) == 0 {
		return nil
	}
	// Newton's steps fall from any start that is not below the root, and stop
	// falling just at the root rounded down.
	root := above(a)
	for {
		quo, _, _ := DivMod(a, root)
		next := drop(Add(root, quo), 1)
		if Cmp(next, root) >= 0 {
			return root
		}
		root = next
	}
}

// above is a number not below the root of a, which is not 0. The root of a's
// higher half gives the higher half of it, so that of a long number too just
// one or two steps are left.
func above(a api.Nat) api.Nat {
	n := Bits(a)
	if len(a) <= 2 {
		return trim(lift(Of(1), (n+1)/2))
	}
	half := Add(Root(drop(a, n/4*2)), Of(1))
	return trim(lift(half, n/4))
}
