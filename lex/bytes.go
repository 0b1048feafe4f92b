package lex

// kind is what a byte begins.
type kind int8

// The kinds of bytes.
const (
	stray kind = iota
	blank
	letter
	digit
	quote
	sign
)

// kindOf is a byte's kind.
func kindOf(b byte) kind {
	switch b {
	case ' ', '\t', '\n', '\r':
		return blank
	case '"':
		return quote
	case '{', '}', '(', ')', '[', ']', ',', ';', '|', '=', '+', '-', '*', '/':
		return sign
	case '_':
		return letter
	}
	switch {
	case 'A' <= b && b <= 'Z', 'a' <= b && b <= 'z':
		return letter
	case '0' <= b && b <= '9':
		return digit
	}
	return stray
}

// byteAt is a byte of a text. Behind the text's end it is 0, with which
// nothing begins and nothing goes on.
func byteAt(text string, at int) byte {
	if at >= len(text) {
		return 0
	}
	return text[at]
}

// digitsEnd is where the digits end that stand at a place: there, if none do.
func digitsEnd(text string, at int) int {
	for kindOf(byteAt(text, at)) == digit {
		at++
	}
	return at
}

// wordEnd is where the letters and digits end that stand at a place.
func wordEnd(text string, at int) int {
	for {
		switch kindOf(byteAt(text, at)) {
		case letter, digit:
			at++
		default:
			return at
		}
	}
}
