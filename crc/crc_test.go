package crc_test

import (
	"hash/crc32"
	"slices"
	"strings"
	"testing"

	"treillage/api"
	"treillage/crc"
)

// asked is the sum by the chapter's words, step by step.
func asked(s string) uint32 {
	x := uint32(1<<32 - 1)
	for i := range len(s) {
		x ^= uint32(s[i])
		for range 8 {
			odd := x%2 == 1
			x /= 2
			if odd {
				x ^= 0x82f63b78
			}
		}
	}
	return x ^ (1<<32 - 1)
}

// some is a text of n bytes that have no order to be seen.
func some(n int) string {
	b := make([]byte, n)
	x := uint32(n) + 1
	for i := range b {
		x = x*1664525 + 1013904223
		b[i] = byte(x >> 24)
	}
	return string(b)
}

// texts are all of one byte, and some of many lengths.
func texts() []string {
	l := []string{"", "\x00\x00", "\x00\x00\x00\x00", "\xff\xff\xff\xff", "123456789", "é\n"}
	for b := range 256 {
		l = append(l, string([]byte{byte(b)}))
	}
	for n := range 70 {
		l = append(l, some(n))
	}
	return append(l, some(4096), some(65536), strings.Repeat("\x00", 1000))
}

// turned is s with the bits of turns turned, from the bit at on (of each byte the lowest bit first).
func turned(s string, at int, turns uint32) string {
	b := []byte(s)
	for i := range 32 {
		if turns>>i&1 == 1 {
			b[(at+i)/8] ^= 1 << ((at + i) % 8)
		}
	}
	return string(b)
}

// 4.1: sums written out, so that they do not hang on what the test reckons with.
func TestOfByHand(t *testing.T) {
	rising, falling := "", ""
	for i := range 32 {
		rising += string([]byte{byte(i)})
		falling += string([]byte{byte(31 - i)})
	}
	for s, want := range map[string]uint32{
		"": 0, "a": 0xc1d04330, "123456789": 0xe3069283,
		strings.Repeat("\x00", 32): 0x8a9136aa, strings.Repeat("\xff", 32): 0x62a8ab43, rising: 0x46dd794e, falling: 0x113fdb5c,
	} {
		if x := crc.Of(s); x != want {
			t.Errorf("Of(%q): %x, not %x", s, x, want)
		}
	}
}

// 4.1: the sum is that of the chapter's words, and CRC-32C.
func TestOf(t *testing.T) {
	table := crc32.MakeTable(crc32.Castagnoli)
	for _, s := range texts() {
		if x := crc.Of(s); x != asked(s) || x != crc32.Checksum([]byte(s), table) {
			t.Errorf("Of a text of %d bytes, %.20q: %x, not %x", len(s), s, x, asked(s))
		}
	}
}

// 4.1: a text has the same sum in whatever parts it comes, empty ones among them.
func TestOfParts(t *testing.T) {
	s := some(11)
	want := asked(s)
	for cuts := range 1 << 10 {
		var parts, spaced []string
		from := 0
		for i := range 10 {
			if cuts>>i&1 == 1 {
				parts = append(parts, s[from:i+1])
				spaced = append(spaced, "", s[from:i+1])
				from = i + 1
			}
		}
		parts, spaced = append(parts, s[from:]), append(spaced, s[from:], "")
		if crc.Of(parts...) != want || crc.Of(spaced...) != want {
			t.Errorf("Of %q: %x and %x, not %x", parts, crc.Of(parts...), crc.Of(spaced...), want)
		}
	}
	if crc.Of() != 0 || crc.Of("", "", "") != 0 || crc.Of([]string{}...) != 0 {
		t.Errorf("Of nothing: %x %x", crc.Of(), crc.Of("", "", ""))
	}
	if crc.Of("ab", "c") == crc.Of("c", "ab") {
		t.Errorf("the order of the parts does not tell")
	}
}

// R5: parts that are handed in stay as they were, and what lies behind them is not read.
func TestOfKeepsItsParts(t *testing.T) {
	parts := []string{"1234", "56789", "x"}
	if x := crc.Of(parts[:2]...); x != 0xe3069283 || !slices.Equal(parts, []string{"1234", "56789", "x"}) {
		t.Errorf("%x, %q", x, parts)
	}
}

// 4.1: the seal is the sum, the lowest byte first, behind the text.
func TestSeal(t *testing.T) {
	for s, want := range map[string]string{"": "\x00\x00\x00\x00", "123456789": "123456789\x83\x92\x06\xe3", "a": "a\x30\x43\xd0\xc1"} {
		if got := crc.Seal(s); got != want {
			t.Errorf("Seal(%q): %q, not %q", s, got, want)
		}
	}
	for _, s := range texts() {
		x := asked(s)
		if got := crc.Seal(s); got != s+string([]byte{byte(x), byte(x >> 8), byte(x >> 16), byte(x >> 24)}) {
			t.Errorf("Seal of %d bytes, %.20q: ends with %q", len(s), s, got[len(s):])
		}
	}
}

// 4.1: what has no room for a seal, and what has another one.
func TestOpenRefused(t *testing.T) {
	for _, s := range []string{"", "a", "\x00", "\x00\x00", "\x00\x00\x00", "abc", "\xff\xff\xff"} {
		if got, e := crc.Open(s); got != "" || e != api.ErrShort {
			t.Errorf("Open(%q): %q %d, not ErrShort", s, got, e)
		}
	}
	for _, s := range []string{
		"abcd", "\xff\xff\xff\xff", "\x00\x00\x00\x01", "\x01\x00\x00\x00", "\x00\x00\x00\x00\x00", // the sum of a byte 0 is not 0
		"123456789\xe3\x06\x92\x83", // the highest byte first
		"123456789\x7c\x6d\xf9\x1c", // without the last xor
		"12345678\x83\x92\x06\xe3", "1234567890\x83\x92\x06\xe3", "\x83\x92\x06\xe3", "123456789\x83\x92\x06\xe3\x00", "123456789\x83\x92\x06", "x123456789\x83\x92\x06\xe3",
	} {
		if got, e := crc.Open(s); got != "" || e != api.ErrSum {
			t.Errorf("Open(%q): %q %d, not ErrSum", s, got, e)
		}
	}
}

// 4.1, 4.2: what was sealed is opened, seal upon seal.
func TestOpen(t *testing.T) {
	if got, e := crc.Open("\x00\x00\x00\x00"); got != "" || e != api.OK {
		t.Errorf("Open of nothing, sealed: %q %d", got, e)
	}
	for _, s := range texts() {
		twice, e := crc.Open(crc.Seal(crc.Seal(s)))
		once, f := crc.Open(twice)
		if e != api.OK || f != api.OK || twice != crc.Seal(s) || once != s {
			t.Errorf("a text of %d bytes, %.20q: %d %d", len(s), s, e, f)
		}
	}
}

// turns are ways to turn bits within 32: each up to eight bits wide, of each width the two ends alone and all of it, and some beside them.
func turns() []uint32 {
	var l []uint32
	for x := uint32(1); x < 256; x += 2 {
		l = append(l, x)
	}
	for width := 9; width <= 32; width++ {
		last := uint32(1) << (width - 1)
		l = append(l, last|1, last|(last-1))
		x := last
		for range 20 {
			x = x*1664525 + 1013904223
			l = append(l, x&(last-1)|last|1)
		}
	}
	return append(l, 0x82f63b78|1, 0x05ec76f1, 0x1edc6f41)
}

// 4.2: bits turned within 32 that follow one another are found, in the text, in its seal, and across both.
func TestTurned(t *testing.T) {
	all := turns()
	for _, s := range []string{"", "a", "\x00\x00\x00\x00\x00", "123456789", some(31)} {
		sealed := crc.Seal(s)
		bits := 8 * len(sealed)
		for at := range bits {
			for _, x := range all {
				if at < bits-32 || x>>(bits-at) == 0 {
					wrong := turned(sealed, at, x)
					if got, e := crc.Open(wrong); got != "" || e != api.ErrSum {
						t.Fatalf("%q, turned by %x at bit %d, is opened: %q %d", sealed, x, at, got, e)
					}
				}
			}
		}
	}
}
