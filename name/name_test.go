package name_test

import (
	"slices"
	"strings"
	"testing"

	"treillage/name"
)

func words() []string {
	return []string{"any", "bool", "computed", "false", "int", "none", "resource", "string", "true"}
}

// many is so many names, all unlike.
func many(n int) []string {
	var l []string
	for i := range n {
		l = append(l, "n"+string(rune('a'+i)))
	}
	return l
}

// 2.1: each word has its number, and nothing else has one.
func TestWord(t *testing.T) {
	for i, w := range words() {
		if n := name.Word(w); n != i+1 {
			t.Errorf("Word(%q): %d", w, n)
		}
		for _, s := range []string{w + "s", "x" + w, w[1:], w[:len(w)-1], w + " ", strings.ToUpper(w), w + "\x00"} {
			if n := name.Word(s); n != 0 {
				t.Errorf("Word(%q): %d", s, n)
			}
		}
	}
	for _, s := range []string{"", "x", "text", "null", "number", "a.b", "\xff"} {
		if n := name.Word(s); n != 0 {
			t.Errorf("Word(%q): %d", s, n)
		}
	}
}

// 2.1: names of one byte up to 16, of all letters that are allowed where they are.
func TestRight(t *testing.T) {
	for _, s := range []string{"a", "z", "m", "a0", "a9", "z_", "a__", "net_2", "anyone", "an", "trueish", "int8", "bool_", strings.Repeat("a", 16), "z" + strings.Repeat("_", 15), "a" + strings.Repeat("9", 15), "abcdefghijklmnop", "qrstuvwxyz_01234", "a56789"} {
		if !name.Right(s) {
			t.Errorf("Right(%q) is false", s)
		}
	}
}

// 2.1: what is no name.
func TestNotRight(t *testing.T) {
	l := []string{"", "0", "9a", "2a", "_", "_a", "A", "Ab", "aB", "a-b", "a.b", "a b", " a", "a ", "a\n", "a\x00", "\x00", "\xff", "a\xff", "\xc3a", "é", "aé", "\u0161", "a\u0161", "\uff41", "a\u0660",
		strings.Repeat("a", 17), strings.Repeat("a", 100000), "a" + strings.Repeat("0", 16)}
	for _, s := range append(l, words()...) {
		if name.Right(s) {
			t.Errorf("Right(%q) is true", s)
		}
	}
}

// 2.1: each byte, as the first one and behind a letter.
func TestRightByteByByte(t *testing.T) {
	for b := range 256 {
		first := 'a' <= b && b <= 'z'
		behind := first || '0' <= b && b <= '9' || b == '_'
		one := string([]byte{byte(b)})
		if name.Right(one) != first {
			t.Errorf("Right(%q) is %v", one, !first)
		}
		if s := "q" + one + "q"; name.Right(s) != behind {
			t.Errorf("Right(%q) is %v", s, !behind)
		}
	}
}

// 2.1: from 1 to 16 names are a path, and nothing with a wrong one among them.
func TestPath(t *testing.T) {
	for _, p := range [][]string{{"a"}, {"a", "b"}, {"a", "a", "a"}, {"b", "a"}, many(16), {strings.Repeat("a", 16)}} {
		if !name.Path(p) {
			t.Errorf("Path(%q) is false", p)
		}
	}
	for _, p := range [][]string{nil, {}, {""}, {"a", ""}, {"", "a"}, {"a.b"}, {"a", "true"}, {"any"}, {"a", "B", "c"}, {"a", "b", "9"}, many(17), many(26), append(many(15), "none"), {strings.Repeat("a", 17)}} {
		if name.Path(p) {
			t.Errorf("Path(%q) is true", p)
		}
	}
}

// 2.1: names rise byte by byte; of none it is true; of what is no name it is not.
func TestRising(t *testing.T) {
	for _, l := range [][]string{nil, {}, {"a"}, {"a", "b"}, {"a", "aa", "ab", "b"}, {"a", "a0", "a_", "aa"}, {"a9", "a_"}, {"a_", "aa"}, {"b10", "b9"}, many(26), {strings.Repeat("a", 15), strings.Repeat("a", 16)}} {
		if !name.Rising(l...) {
			t.Errorf("Rising(%q) is false", l)
		}
	}
	for _, l := range [][]string{{"a", "a"}, {"b", "a"}, {"aa", "a"}, {"a", "b", "b"}, {"a", "c", "b"}, {"b", "c", "a"}, {"a_", "a9"}, {"b9", "b10"}, {""}, {"", "a"}, {"a", ""}, {"A"}, {"A", "b"}, {"a", "bool"}, {"a", "b", "c-"}, {"any", "b"}, {"a", "b", strings.Repeat("c", 17)}} {
		if name.Rising(l...) {
			t.Errorf("Rising(%q) is true", l)
		}
	}
	if !name.Rising() {
		t.Errorf("Rising() is false")
	}
}

// 2.2: a path's text has a dot between each two names.
func TestText(t *testing.T) {
	for want, p := range map[string][]string{"a": {"a"}, "a.b": {"a", "b"}, "net.n_0.n_0": {"net", "n_0", "n_0"}} {
		if s, ok := name.Text(p...); s != want || !ok {
			t.Errorf("Text(%q): %q %v", p, s, ok)
		}
	}
	long := strings.Repeat("a", 16)
	if s, ok := name.Text(slices.Repeat([]string{long}, 16)...); s != strings.Repeat(long+".", 15)+long || !ok {
		t.Errorf("Text of the longest path: %q %v", s, ok)
	}
	for _, p := range [][]string{nil, {""}, {"a", ""}, {"a.b"}, {"a", "true"}, {"a", "_"}, many(17), {long + "a"}} {
		if s, ok := name.Text(p...); s != "" || ok {
			t.Errorf("Text(%q): %q %v", p, s, ok)
		}
	}
}

// 2.2: a path's text is split at its dots.
func TestSplit(t *testing.T) {
	for s, want := range map[string][]string{"a": {"a"}, "a.b1": {"a", "b1"}, "a.b.a": {"a", "b", "a"}, strings.Join(many(16), "."): many(16)} {
		if p, ok := name.Split(s); !slices.Equal(p, want) || !ok {
			t.Errorf("Split(%q): %q %v", s, p, ok)
		}
	}
}

// 2.2: of what is no path's text nothing is told.
func TestNotSplit(t *testing.T) {
	long := strings.Repeat("a", 17)
	for _, s := range []string{"", ".", "..", ".a", "a.", "a..b", "a.true", "any", "any.a", "a.B", "a b", "a. b", "a.1", "a/b", "a.b\n", "a\x00.b", "\xff", long, "a." + long, strings.Join(many(17), "."), strings.Join(many(16), ".") + ".", strings.Repeat("a.", 100000), strings.Repeat("a", 100000), strings.Repeat(".", 100000)} {
		if p, ok := name.Split(s); p != nil || ok {
			t.Errorf("Split of %d bytes, %.30q: %q %v", len(s), s, p, ok)
		}
	}
}

// 2.3: what is put together is split again, and the other way round.
func TestTextAndSplit(t *testing.T) {
	for n := 1; n <= 16; n++ {
		s, ok := name.Text(many(n)...)
		p, ok2 := name.Split(s)
		if !ok || !ok2 || !slices.Equal(p, many(n)) {
			t.Errorf("%q is split as %q", s, p)
		}
	}
	pieces := []string{"a", "b2", ".", "_", "any", "", "A"}
	for _, a := range pieces {
		for _, b := range pieces {
			for _, c := range pieces {
				s := a + b + c
				p, ok := name.Split(s)
				if ok != name.Path(strings.Split(s, ".")) {
					t.Errorf("Split(%q): %q %v", s, p, ok)
				}
				if again, right := name.Text(p...); right != ok || ok && again != s {
					t.Errorf("%q is put together again as %q", s, again)
				}
			}
		}
	}
}

// R5: what is handed in is not changed, what lies behind its length is not read, and each answer is new.
func TestMemory(t *testing.T) {
	l := []string{"a", "b", "_"}
	if s, ok := name.Text(l[:2]...); s != "a.b" || !ok || !name.Path(l[:2]) || !name.Rising(l[:2]...) {
		t.Errorf("what lies behind a list was read: %q %v", s, ok)
	}
	if !slices.Equal(l, []string{"a", "b", "_"}) {
		t.Errorf("changed: %q", l)
	}
	p, _ := name.Split("a.b")
	p[0] = "x"
	if q, ok := name.Split("a.b"); !slices.Equal(q, []string{"a", "b"}) || !ok {
		t.Errorf("an answer is not new: %q", q)
	}
}
