package lex

import "credence/api"

// name is the name at which the reader is.
func (r *reader) name() (api.Token, error) {
	end := wordEnd(r.text, r.at)
	if end-r.at > api.MaxName {
		return r.fault(api.ErrByte, end)
	}
	return r.taken(api.TokenName, end)
}

// number is the number at which the reader is.
func (r *reader) number() (api.Token, error) {
	point := digitsEnd(r.text, r.at)
	mark := pointEnd(r.text, point)
	first, end := exponent(r.text, mark)
	behind := wordEnd(r.text, end)
	if behind > end || isFar(r.text[first:end]) {
		return r.fault(api.ErrNumber, behind)
	}
	return r.taken(api.TokenNumber, end)
}

// pointEnd is where a point and its digits end; at the place where they would
// begin, if there is no point or no digit behind it.
func pointEnd(text string, at int) int {
	if byteAt(text, at) != '.' {
		return at
	}
	if end := digitsEnd(text, at+1); end > at+1 {
		return end
	}
	return at
}

// exponent is where an exponent's digits begin and end; at the place where
// the exponent's letter would be, if there is none.
func exponent(text string, at int) (int, int) {
	first := at
	switch byteAt(text, at) {
	case 'e', 'E':
		first++
	default:
		return at, at
	}
	switch byteAt(text, first) {
	case '+', '-':
		first++
	}
	if end := digitsEnd(text, first); end > first {
		return first, end
	}
	return at, at
}

// isFar is whether an exponent's digits are above the greatest one.
func isFar(digits string) bool {
	size := 0
	for at := range len(digits) {
		size = min(10*size+int(digits[at]-'0'), api.MaxExponent+1)
	}
	return size > api.MaxExponent
}

// quoted is the text at which the reader is.
func (r *reader) quoted() (api.Token, error) {
	var means []byte
	for at := r.at + 1; at < len(r.text); at++ {
		switch r.text[at] {
		case '"':
			return r.token(api.TokenText, at+1, string(means))
		case '\n':
			return r.fault(api.ErrText, r.at+1)
		case '\\':
			at++
			if next := byteAt(r.text, at); next != '"' && next != '\\' {
				return r.fault(api.ErrText, r.at+1)
			}
		}
		means = append(means, r.text[at])
	}
	return r.fault(api.ErrText, r.at+1)
}
