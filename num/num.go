// Package num is layer 01: see shared/doc/01-num.md.
package num

import (
	"strings"

	"treillage/api"
)

const (
	mostDigits = 16 // as many as api.MaxInt has: a longer text is none of the language's
	mostBytes  = 20 // as many as the text of the least int has, its sign among them
)

// In tells whether a number is one of the language.
func In(n int) bool {
	return -api.MaxInt <= n && n <= api.MaxInt
}

// Add adds.
func Add(a, b int) (int, api.Errno) {
	if !In(a) || !In(b) {
		return 0, api.ErrRange
	}
	return within(a + b)
}

// Sub takes away.
func Sub(a, b int) (int, api.Errno) {
	if !In(a) || !In(b) {
		return 0, api.ErrRange
	}
	return within(a - b)
}

// Mul multiplies.
func Mul(a, b int) (int, api.Errno) {
	if !In(a) || !In(b) {
		return 0, api.ErrRange
	}
	// The product may go round beyond an int, so it is bounded ahead of it.
	if a != 0 && magnitude(b) > api.MaxInt/magnitude(a) {
		return 0, api.ErrOver
	}
	return a * b, api.OK
}

// Sum adds all.
func Sum(l ...int) (int, api.Errno) {
	sum := 0
	for _, n := range l {
		var e api.Errno
		if sum, e = Add(sum, n); e != api.OK {
			return 0, e
		}
	}
	return sum, api.OK
}

// Text is a number's text.
func Text(n int) string {
	var text [mostBytes]byte
	at, left := mostBytes, magnitude(n)
	for range mostBytes {
		at--
		text[at] = '0' + byte(left%10)
		left /= 10
		if left == 0 {
			break
		}
	}
	if n < 0 {
		at--
		text[at] = '-'
	}
	return string(text[at:])
}

// Read reads a number's text.
func Read(s string) (int, api.Errno) {
	digits := strings.TrimPrefix(s, "-")
	below := len(digits) < len(s)
	if !natural(digits) || below && digits == "0" {
		return 0, api.ErrForm
	}
	if len(digits) > mostDigits {
		return 0, api.ErrOver
	}
	n, place := 0, 1
	for i := range len(digits) {
		n += int(digits[len(digits)-1-i]-'0') * place
		place *= 10
	}
	if below {
		n = -n
	}
	return within(n)
}

// within is what came of a reckoning, if the language has it.
func within(n int) (int, api.Errno) {
	if !In(n) {
		return 0, api.ErrOver
	}
	return n, api.OK
}

// magnitude is how far a number is from 0. It has no sign, because that of the least int is beyond an int.
func magnitude(n int) uint64 {
	if n < 0 {
		return -uint64(n)
	}
	return uint64(n)
}

// natural tells whether a text is the digits of a number from 0 on, without noughts ahead.
func natural(s string) bool {
	if s == "" || s[0] == '0' && len(s) > 1 {
		return false
	}
	for i := range len(s) {
		if s[i] < '0' || s[i] > '9' {
			return false
		}
	}
	return true
}
