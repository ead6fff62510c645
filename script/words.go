package script

import "strings"

// words parts a line at its blanks, but for those within a quoted text. A quoted text ends a word: what stands behind it, a blank between or not, begins another one. A text that has no end is told by whoever reads it as one.
func words(line string) []string {
	var list []string
	start, quoted := -1, false
	for at, r := range line {
		switch {
		case start < 0 && r == ' ':
		case start < 0:
			start, quoted = at, r == '"'
		case quoted && r == '"':
			list = append(list, line[start:at+1])
			start = -1
		case !quoted && r == ' ':
			list = append(list, line[start:at])
			start = -1
		}
	}
	if start >= 0 {
		list = append(list, line[start:])
	}
	return list
}

func saysNothing(words []string) bool {
	return len(words) == 0 || words[0][0] == ';'
}

// maxDigits is how many digits a number has at most, be it as small as it may.
const maxDigits = 10

// number reads a word that is one. There is one form of each: no noughts ahead, nor a 0 below 0.
func number(word string) (int, bool) {
	if word == "0" {
		return 0, true
	}
	text, below := strings.CutPrefix(word, "-")
	if text == "" || len(text) > maxDigits || text[0] == '0' {
		return 0, false
	}
	n := 0
	for _, r := range text {
		if r < '0' || r > '9' {
			return 0, false
		}
		n = 10*n + int(r-'0')
	}
	if below {
		n = -n
	}
	return n, true
}

// digits of a byte that may not stand as it is.
const digits = "0123456789abcdef"

// isPlain: may a byte stand in a quoted text as it is?
func isPlain(c byte) bool { return c >= ' ' && c <= '~' && c != '"' && c != '\\' }

// quote is a text as a quoted one.
func quote(text string) string {
	b := []byte{'"'}
	for i := range len(text) {
		c := text[i]
		if isPlain(c) {
			b = append(b, c)
			continue
		}
		b = append(b, '\\', 'x', digits[c>>4], digits[c&15])
	}
	return string(append(b, '"'))
}

// unquote reads a word that is a quoted text.
func unquote(word string) (string, bool) {
	text, opened := strings.CutPrefix(word, `"`)
	text, closed := strings.CutSuffix(text, `"`)
	if !opened || !closed {
		return "", false
	}
	var b []byte
	for text != "" {
		c, n, is := unquoteByte(text)
		if !is {
			return "", false
		}
		b, text = append(b, c), text[n:]
	}
	return string(b), true
}

// unquoteByte reads the byte that a text begins with, and how many it is written with.
func unquoteByte(text string) (byte, int, bool) {
	if isPlain(text[0]) {
		return text[0], 1, true
	}
	if len(text) < 4 || text[:2] != `\x` {
		return 0, 0, false
	}
	up, low := strings.IndexByte(digits, text[2]), strings.IndexByte(digits, text[3])
	if up < 0 || low < 0 {
		return 0, 0, false
	}
	return byte(up<<4 | low), 4, true
}
