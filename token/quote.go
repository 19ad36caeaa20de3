package token

import (
	"strings"

	"treillage/api"
)

// digits are those of the base 16.
const digits = "0123456789abcdef"

// Quote is the token of a text.
func Quote(s string) string {
	b := []byte{'"'}
	for i := range len(s) {
		switch c := s[i]; {
		case c == '"' || c == '\\':
			b = append(b, '\\', c)
		case c == '\n':
			b = append(b, '\\', 'n')
		case !plain(c):
			b = append(b, '\\', 'x', digits[c/16], digits[c%16])
		default:
			b = append(b, c)
		}
	}
	return string(append(b, '"'))
}

// text is the token Text at the front of a text that begins with a double quote. How long it is is asked at its end, because one that does not end so is none, however long.
func text(s string) (t Token, size int, e api.Errno) {
	var b []byte
	at := 1
	for !strings.HasPrefix(s[at:], `"`) {
		c, n := part(s[at:])
		if n == 0 {
			return Token{}, 0, api.ErrToken
		}
		b = append(b, c)
		at += n
	}
	if len(b) > api.MaxText {
		return Token{}, 0, api.ErrLong
	}
	return Token{Kind: Text, Text: string(b)}, at + 1, api.OK
}

// part is the byte for which the part at the front of a text stands, and how many bytes the part has: 0, if there is none.
func part(s string) (c byte, size int) {
	switch {
	case s == "" || s[0] == '"' || !plain(s[0]):
		return 0, 0
	case s[0] != '\\':
		return s[0], 1
	case len(s) == 1:
		return 0, 0
	}
	switch s[1] {
	case '"', '\\':
		return s[1], 2
	case 'n':
		return '\n', 2
	case 'x':
		return coded(s)
	}
	return 0, 0
}

// coded is the byte that is told by a part's two digits, which stand behind two other bytes.
func coded(s string) (c byte, size int) {
	if len(s) < 4 {
		return 0, 0
	}
	high, low := strings.IndexByte(digits, s[2]), strings.IndexByte(digits, s[3])
	if high < 0 || low < 0 {
		return 0, 0
	}
	return byte(16*high + low), 4
}

// plain tells whether a byte may stand in a token as it is, if nothing else is meant by it.
func plain(c byte) bool { return 32 <= c && c <= 126 }
