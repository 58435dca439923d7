package lex

import "stillroom/api"

// mayBe tells whether some text has a token of that kind and text.
func mayBe(kind int, s string) bool {
	switch kind {
	case api.TokName:
		return isName(s) && !isWord(s)
	case api.TokInt:
		return isNumber(s)
	case api.TokText:
		return isText(s)
	case api.TokSign:
		return isSign(s)
	case api.TokWord:
		return isWord(s)
	}
	return false
}

// isWord tells whether a text is a word of the language.
func isWord(s string) bool {
	for _, w := range words {
		if s == w {
			return true
		}
	}
	return false
}

// isSign tells whether a text is a sign, no more and no less.
func isSign(s string) bool {
	n := signLength(s)
	return n > 0 && n == len(s)
}

// isName tells whether a text is a name's, or a word's, which is like one.
func isName(s string) bool {
	if s == "" || len(s) > maxName || !isLetter(s[0]) {
		return false
	}
	for i := range len(s) {
		if !isOfName(s[i]) {
			return false
		}
	}
	return true
}

// isNumber tells whether a text is a number's.
func isNumber(s string) bool {
	if s == "" || len(s) > maxDigits || len(s) > 1 && s[0] == '0' {
		return false
	}
	for i := range len(s) {
		if !isDigit(s[i]) {
			return false
		}
	}
	return true
}

// isText tells whether bytes may stand between quotes, those among them that must
// behind a \.
func isText(s string) bool {
	if len(s) > maxText {
		return false
	}
	for i := range len(s) {
		if _, ok := signOf(s[i]); !ok && !isPlain(s[i]) {
			return false
		}
	}
	return true
}

// isPlain tells whether a byte between quotes may stand as it is: but for quotes
// and \, which are told from it ahead.
func isPlain(c byte) bool { return c >= 32 && c <= 126 }

// isDigit tells whether a byte is a digit.
func isDigit(c byte) bool { return c >= '0' && c <= '9' }

// isLetter tells whether a name may begin with a byte.
func isLetter(c byte) bool { return c >= 'a' && c <= 'z' || c >= 'A' && c <= 'Z' || c == '_' }

// isOfName tells whether a byte may stand in a name.
func isOfName(c byte) bool { return isLetter(c) || isDigit(c) || c == '\'' }
