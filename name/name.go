// Package name is layer 02: see shared/doc/02-name.md.
package name

import (
	"strings"

	"treillage/api"
)

// words are the language's words, in the order of their numbers.
var words = [...]string{"any", "bool", "computed", "false", "int", "none", "resource", "string", "true"}

// Word is a word's number.
func Word(s string) int {
	for i, w := range words {
		if s == w {
			return i + 1
		}
	}
	return 0
}

// Right tells whether a text is a name.
func Right(s string) bool {
	if s == "" || len(s) > api.MaxName {
		return false
	}
	for i, r := range s {
		if !letter(r) && (i == 0 || !inner(r)) {
			return false
		}
	}
	return Word(s) == 0
}

// Path tells whether names are a path.
func Path(p []string) bool {
	if len(p) == 0 || len(p) > api.MaxDepth {
		return false
	}
	for _, s := range p {
		if !Right(s) {
			return false
		}
	}
	return true
}

// Text is a path's text.
func Text(p ...string) (string, bool) {
	if !Path(p) {
		return "", false
	}
	return strings.Join(p, "."), true
}

// Split is the path of a text.
func Split(s string) ([]string, bool) {
	// One piece more than a path may have tells that there are too many, however long the text is.
	p := strings.SplitN(s, ".", api.MaxDepth+1)
	if !Path(p) {
		return nil, false
	}
	return p, true
}

// Rising tells whether names rise.
func Rising(l ...string) bool {
	for i, s := range l {
		if !Right(s) || i > 0 && s <= l[i-1] {
			return false
		}
	}
	return true
}

// letter tells whether a name may begin with r.
func letter(r rune) bool {
	return 'a' <= r && r <= 'z'
}

// inner tells whether r may stand in a name behind its begin, where letters may, too.
func inner(r rune) bool {
	return '0' <= r && r <= '9' || r == '_'
}
