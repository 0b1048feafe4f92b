package model

import "credence/api"

// first is what the first of some judges says who finds something wrong.
func first(judges ...func() api.Errno) api.Errno {
	for _, judge := range judges {
		if code := judge(); code != api.OK {
			return code
		}
	}
	return api.OK
}

// A roll has names, and the number of each: how many came ahead of it.
type roll map[string]int

// enter puts a name in, and says whether it was not in already.
func (r roll) enter(name string) bool {
	if _, in := r[name]; in {
		return false
	}
	r[name] = len(r)
	return true
}

// rollOf has some names, and says whether none of them comes twice.
func rollOf(names []string) (roll, bool) {
	r := roll{}
	for _, name := range names {
		if !r.enter(name) {
			return nil, false
		}
	}
	return r, true
}
