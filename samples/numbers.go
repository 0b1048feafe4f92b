// Package samples makes what the layers' tests hand in, and looks after the
// memory of what is answered. Tests alone call it; it keeps to the program's
// language all the same.
package samples

import "credence/api"

// full is the greatest limb.
const full = 1<<32 - 1

// EdgeNats are all numbers of up to three limbs out of those at which carries
// and borrows begin and end; some of them have noughts ahead.
func EdgeNats() []api.Nat {
	limbs := []uint32{0, 1, 1<<31 - 1, 1 << 31, full}
	list := []api.Nat{nil}
	for _, x := range limbs {
		list = append(list, api.Nat{x})
		for _, y := range limbs {
			list = append(list, api.Nat{x, y})
			for _, z := range limbs {
				list = append(list, api.Nat{x, y, z})
			}
		}
	}
	return list
}

// Nats are numbers of up to most limbs without any order, the same at each
// run; each third one has limbs of 0 and of 2^32 - 1 in it.
func Nats(count, most int) []api.Nat {
	seed := uint64(88172645463325252)
	next := func() uint32 {
		seed ^= seed << 13
		seed ^= seed >> 7
		seed ^= seed << 17
		return uint32(seed >> 16)
	}
	list := make([]api.Nat, count)
	for i := range list {
		list[i] = make(api.Nat, int(next())%most+1)
		for j := range list[i] {
			list[i][j] = next()
			if i%3 == 0 && next()%2 == 0 {
				list[i][j] = -(next() & 1)
			}
		}
	}
	return list
}

// Ints are some numbers on both sides of 0, one behind the other.
func Ints(sizes []api.Nat) []api.Int {
	var list []api.Int
	for _, size := range sizes {
		list = append(list, api.Int{Mag: size}, api.Int{Neg: true, Mag: size})
	}
	return list
}

// Rats are each of some numbers over each of some others; those over 0 stand
// for fractions too, over 1.
func Rats(nums []api.Int, dens []api.Nat) []api.Rat {
	var list []api.Rat
	for _, num := range nums {
		for _, den := range dens {
			list = append(list, api.Rat{Num: num, Den: den})
		}
	}
	return list
}
