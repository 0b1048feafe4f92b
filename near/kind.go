package near

// kind is a kind of floats. Those that are not negative are counted by their
// bits: 0 is number 0, the least above it number 1, and so on up to infinity.
// Each is some units, of digits bits at most, times a power of 2.
type kind struct {
	digits int
	least  int // the exponent of the least float above 0
	top    int // the exponent of what infinity counts as
}

// doubles are the floats of 64 bits.
func doubles() kind { return kind{digits: 53, least: -1074, top: 1024} }

// singles are the floats of 32 bits.
func singles() kind { return kind{digits: 24, least: -149, top: 128} }

// parts are the units and the exponent of the float of a number.
func (k kind) parts(number uint64) (uint64, int) {
	// Floats lie in ranges of as many steps each; the first two have the same
	// steps, and from there on each range has steps twice as great.
	grown := max(number>>(k.digits-1), 1) - 1
	return number - grown<<(k.digits-1), k.least + int(grown)
}

// number is the number of the float of these parts. Units of one digit more
// lead on to the next range, behind the last one to infinity.
func (k kind) number(units uint64, exponent int) uint64 {
	return units + uint64(exponent-k.least)<<(k.digits-1)
}

// infinity is the number of what comes behind all finite floats.
func (k kind) infinity() uint64 { return k.number(1<<k.digits, k.top-k.digits) }
