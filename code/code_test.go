package code_test

import (
	"fmt"
	"math"
	"slices"
	"strconv"
	"strings"
	"testing"

	"treillage/api"
	"treillage/code"
	"treillage/lat"
	"treillage/rank"
)

// top is the greatest number of the language.
const top = 1 << 53

// value is a value of some terms.
func value(l ...api.Term) api.Value { return api.Value{Terms: l} }

// number are the numbers from lo to hi.
func number(lo, hi int) api.Term { return api.Term{Kind: 2, Lo: lo, Hi: hi} }

// text is just a text.
func text(s string) api.Term { return api.Term{Kind: 3, Text: s} }

// maybe is a term with Maybe.
func maybe(t api.Term) api.Term {
	t.Maybe = true
	return t
}

// field is a field of which the value has some terms.
func field(name string, l ...api.Term) api.Field { return api.Field{Name: name, V: value(l...)} }

// closed is a struct that has some fields alone.
func closed(l ...api.Field) api.Term { return api.Term{Kind: 4, Fields: l} }

// open is a struct that has some fields, and more.
func open(l ...api.Field) api.Term { return api.Term{Kind: 4, Open: true, Fields: l} }

// The terms that are all of a kind, or one thing of KBool.
var (
	no      = api.Term{Kind: 1}
	yes     = api.Term{Kind: 1, Lo: 1, Hi: 1}
	both    = api.Term{Kind: 1, Hi: 1}
	numbers = api.Term{Kind: 2, Lo: -top, Hi: top}
	texts   = api.Term{Kind: 3, Any: true}
	all     = api.Term{Kind: 5}
)

// row are n numbers, each one a term.
func row(n int) []api.Term {
	var l []api.Term
	for i := range n {
		l = append(l, number(i, i))
	}
	return l
}

// fields are n fields, each with some terms.
func fields(n int, l ...api.Term) []api.Field {
	var out []api.Field
	for i := range n {
		out = append(out, field("f"+strconv.Itoa(100+i), l...))
	}
	return out
}

// nested is a value within n structs.
func nested(n int, l ...api.Term) api.Value {
	v := value(l...)
	for range n {
		v = value(closed(api.Field{Name: "a", V: v}))
	}
	return v
}

// show is the begin of what is told, which may be great.
func show(x any) string {
	s := fmt.Sprintf("%v", x)
	return s[:min(len(s), 200)]
}

// digits is a number's bytes by the words of chapter 3.
func digits(n uint64) string {
	s := string([]byte{byte(n % 128)})
	for n /= 128; n > 0; n /= 128 {
		s = string([]byte{byte(n%128) + 128}) + s
	}
	return s
}

// signed is the bytes of a number with a sign.
func signed(n int) string {
	if n < 0 {
		return digits(2*(uint64(-(n + 1))) + 1)
	}
	return digits(2 * uint64(n))
}

// counted is a text's bytes.
func counted(s string) string { return digits(uint64(len(s))) + s }

// asked is a value's bytes by the chapter's words, right or not.
func asked(v api.Value) string {
	s := digits(uint64(len(v.Terms)))
	for _, t := range v.Terms {
		n := 8 * uint64(t.Kind)
		for i, b := range []bool{t.Maybe, t.Any, t.Open} {
			if b {
				n += 1 << i
			}
		}
		s += digits(n)
		switch t.Kind {
		case 1, 2:
			s += signed(t.Lo) + signed(t.Hi)
		case 3:
			s += counted(t.Text)
		case 4:
			s += digits(uint64(len(t.Fields)))
			for _, f := range t.Fields {
				s += counted(f.Name) + asked(f.V)
			}
		}
	}
	return s
}

// dice are numbers that have no order to be seen.
type dice uint32

// roll is a number from 0 up to below n.
func (d *dice) roll(n int) int {
	*d = *d*1664525 + 1013904223
	return int(uint32(*d)>>8) % n
}

// rolled is a right value.
func rolled(d *dice, depth int) api.Value {
	var l []api.Term
	for range d.roll(4) {
		l = append(l, rolledTerm(d, depth))
	}
	v, _ := lat.Of(l...)
	return v
}

// rolledTerm is a right term.
func rolledTerm(d *dice, depth int) api.Term {
	if depth > 0 && d.roll(2) == 0 {
		t := api.Term{Kind: 4, Open: d.roll(2) == 0}
		for _, k := range []string{"a", "b_2", "c3456789abcdefgh"} {
			if v := rolled(d, depth-1); len(v.Terms) > 0 {
				t.Fields = append(t.Fields, api.Field{Name: k, V: v})
			}
		}
		return t
	}
	lo := d.roll(1<<(1+d.roll(20))) - d.roll(1<<(1+d.roll(20)))
	l := []api.Term{no, yes, both, maybe(both), number(lo, lo), number(lo, lo+d.roll(400)), maybe(number(lo, lo+1+d.roll(400))), numbers, maybe(numbers), text(""), text(strings.Repeat("\x85", d.roll(257))), texts, maybe(texts), all}
	return l[d.roll(len(l))]
}

// some are right values, all unlike: simple ones, such as are just not too great, and rolled ones.
func some() []api.Value {
	l := []api.Value{
		value(), value(all), value(no), value(yes), value(both), value(maybe(both)), value(no, yes), value(number(0, 0)), value(number(1, 2)), value(maybe(number(1, 2))), value(number(-1, -1)), value(number(-64, 63)), value(number(-65, 64)), value(numbers), value(maybe(numbers)), value(number(-top, -top)), value(number(top, top)), value(number(-top, 1-top), number(top-1, top)),
		value(text("")), value(text("a")), value(text("ab")), value(text("\x00")), value(text("\x80\xff")), value(text(strings.Repeat("x", 127))), value(text(strings.Repeat("x", 128))), value(text(strings.Repeat("x", 256))), value(texts), value(maybe(texts)), value(no, number(1, 2), text("a"), closed()),
		value(closed()), value(open()), value(closed(field("a", yes))), value(open(field("a", yes))), value(closed(field("a", all), field("b", texts, open(field("c", no, yes))))), value(closed(), open(field("a", number(1, 9)))), value(closed(field("a234567890123456", yes))), value(closed(field("a", closed(field("b", closed()))))),
		value(row(512)...), value(closed(fields(32, yes)...)), value(open(fields(32, row(15)[:14]...)...)), value(closed(field("a", row(511)...))), nested(15, yes), nested(15, all), nested(15, open()), nested(2, row(510)...),
	}
	for i := range 200 {
		v := rolled(new(dice(i)), 2)
		if !slices.ContainsFunc(l, func(w api.Value) bool { return rank.Same(v, w) }) {
			l = append(l, v)
		}
	}
	return l
}

// broken are values that are not right, which have bytes by the chapter's words all the same.
func broken() []api.Value {
	l := []api.Value{
		value(api.Term{}), value(api.Term{Kind: 6}), value(api.Term{Kind: 7, Maybe: true}), value(api.Term{Kind: 32}), value(no, api.Term{Kind: 16}),
		value(maybe(all)), value(api.Term{Kind: 5, Any: true}), value(api.Term{Kind: 5, Open: true}), value(maybe(closed())), value(api.Term{Kind: 4, Any: true}), value(maybe(open())),
		value(maybe(no)), value(maybe(number(3, 3))), value(maybe(text("a"))), value(api.Term{Kind: 3, Text: "a", Any: true}), value(api.Term{Kind: 1, Any: true}), value(api.Term{Kind: 2, Hi: 1, Any: true}), value(api.Term{Kind: 1, Hi: 1, Open: true}), value(api.Term{Kind: 2, Open: true}), value(api.Term{Kind: 3, Any: true, Open: true}), value(api.Term{Kind: 3, Open: true}),
		value(api.Term{Kind: 1, Hi: 2}), value(api.Term{Kind: 1, Lo: 1}), value(api.Term{Kind: 1, Lo: -1}), value(number(2, 1)), value(number(top, top+1)), value(number(-top-1, 0)), value(number(math.MinInt, math.MaxInt)), value(number(math.MaxInt, math.MaxInt)), value(text(strings.Repeat("x", 257))), value(text(strings.Repeat("x", 1<<15))),
		value(yes, no), value(no, no), value(number(2, 2), number(1, 1)), value(text("a"), no), value(closed(), no), value(all, all), value(open(), closed()),
		value(number(1, 9), number(3, 3)), value(no, both), value(no, all), value(closed(), open()), value(texts, text("a")), value(both, maybe(both)), value(closed(field("a", yes)), closed(field("a", both))),
		value(closed(field("", yes))), value(closed(field("A", yes))), value(closed(field("int", yes))), value(closed(field("a2345678901234567", yes))), value(closed(field(strings.Repeat("a", 300), yes))), value(closed(field("b", yes), field("a", yes))), value(open(field("a", yes), field("a", yes))),
		value(closed(field("a"))), value(open(field("a", yes), field("b"))), value(closed(field("a", yes, no))), value(closed(field("a", api.Term{}))), value(closed(field("a", closed(field("b"))))),
		value(closed(fields(33, yes)...)), value(open(fields(33, yes)...)), value(row(513)...), value(row(2000)...), value(closed(field("a", row(512)...))), value(closed(field("a", row(256)...), field("b", row(256)...))), value(closed(fields(32, row(16)...)...)), nested(16, yes), nested(16, closed()), nested(17), nested(1000, yes), nested(3, row(510)...),
	}
	for i := range l {
		for n := 1; n < 16; n += 7 {
			l = append(l, nested(n, l[i].Terms...))
		}
	}
	return l
}

// 10.1: bytes, written out.
func TestBytesByHand(t *testing.T) {
	for _, c := range []struct {
		v api.Value
		b []byte
	}{
		{value(), []byte{0}},
		{value(all), []byte{1, 40}},
		{value(number(1, 2)), []byte{1, 16, 2, 4}},
		{value(maybe(number(1, 2))), []byte{1, 17, 2, 4}},
		{value(number(-1, 0)), []byte{1, 16, 1, 0}},
		{value(number(-2, 150)), []byte{1, 16, 3, 130, 44}},
		{value(numbers), []byte{1, 16, 159, 255, 255, 255, 255, 255, 255, 127, 160, 128, 128, 128, 128, 128, 128, 0}},
		{value(no), []byte{1, 8, 0, 0}},
		{value(yes), []byte{1, 8, 2, 2}},
		{value(both), []byte{1, 8, 0, 2}},
		{value(maybe(both)), []byte{1, 9, 0, 2}},
		{value(text("")), []byte{1, 24, 0}},
		{value(text("ab")), []byte{1, 24, 2, 97, 98}},
		{value(texts), []byte{1, 26, 0}},
		{value(maybe(texts)), []byte{1, 27, 0}},
		{value(closed()), []byte{1, 32, 0}},
		{value(open()), []byte{1, 36, 0}},
		{value(closed(field("a", yes))), []byte{1, 32, 1, 1, 97, 1, 8, 2, 2}},
		{value(open(field("a", all), field("bc", no, text("x")))), []byte{1, 36, 2, 1, 97, 1, 40, 2, 98, 99, 2, 8, 0, 0, 24, 1, 120}},
		{value(no, yes, number(7, 9), texts, closed(field("a", closed()))), []byte{5, 8, 0, 0, 8, 2, 2, 16, 14, 18, 26, 0, 32, 1, 1, 97, 1, 32, 0}},
	} {
		s, e := code.Encode(c.v)
		if s != string(c.b) || e != api.OK {
			t.Errorf("Encode(%v): %v %d, not %v", c.v, []byte(s), e, c.b)
		}
		v, e := code.Decode(string(c.b))
		if !rank.Same(v, c.v) || e != api.OK {
			t.Errorf("Decode(%v): %v %d, not %v", c.b, v, e, c.v)
		}
	}
}

// 10.1, 10.2: right values are written by the chapter's words, and read as they were; unlike ones have unlike bytes.
func TestWrittenAndRead(t *testing.T) {
	seen := map[string]api.Value{}
	for _, v := range some() {
		s, e := code.Encode(v)
		if s != asked(v) || e != api.OK {
			t.Fatalf("Encode(%s): %s %d, not %s", show(v), show([]byte(s)), e, show([]byte(asked(v))))
		}
		w, e := code.Decode(s)
		if !rank.Same(v, w) || e != api.OK {
			t.Fatalf("Decode: %s %d, not %s", show(w), e, show(v))
		}
		if u, ok := seen[s]; ok {
			t.Errorf("%s and %s have the same bytes", show(u), show(v))
		}
		seen[s] = v
	}
}

// none fails, if something is answered beside an error.
func none(t *testing.T, what string, s string, want api.Errno) {
	t.Helper()
	if v, e := code.Decode(s); len(v.Terms) != 0 || e != want {
		t.Errorf("%s: Decode(%s): %s %d, not none %d", what, show([]byte(s)), show(v), e, want)
	}
}

// 10.1: values that are not right are not written, and what would be their bytes is not read.
func TestNotRight(t *testing.T) {
	for i, v := range broken() {
		if s, e := code.Encode(v); s != "" || e != api.ErrArg {
			t.Errorf("Encode, %d of %s: %s %d", i, show(v), show([]byte(s)), e)
		}
		none(t, "of a value that is not right, "+strconv.Itoa(i), asked(v), api.ErrForm)
	}
	// What bytes do not tell keeps a value from being right, too.
	for _, v := range []api.Value{value(api.Term{Kind: 5, Lo: 1}), value(api.Term{Kind: 4, Text: "a"}), value(api.Term{Kind: 2, Text: "a"}), value(api.Term{Kind: 3, Hi: 1}), value(api.Term{Kind: 1, Fields: fields(1, yes)}), value(api.Term{Kind: 5, Fields: fields(1, yes)}), value(api.Term{Kind: -1}), value(api.Term{Kind: 1 << 61})} {
		if s, e := code.Encode(v); s != "" || e != api.ErrArg {
			t.Errorf("Encode(%v): %v %d", v, []byte(s), e)
		}
	}
}

// 10.1: bytes that are no value's, written out.
func TestFormByHand(t *testing.T) {
	for _, b := range [][]byte{
		{},
		// Cut short.
		{1}, {1, 16}, {1, 16, 2}, {1, 16, 2, 130}, {1, 24}, {1, 24, 2, 97}, {1, 32}, {1, 32, 1}, {1, 32, 1, 1}, {1, 32, 1, 1, 97}, {1, 32, 1, 1, 97, 1}, {2, 8, 0, 0}, {128}, {132},
		// Something behind.
		{0, 0}, {1, 40, 0}, {1, 16, 2, 4, 0}, {1, 24, 1, 97, 98}, {1, 32, 0, 0}, {1, 8, 0, 0, 8, 2, 2},
		// Numbers that could be written shorter, in each place.
		{128, 0}, {128, 1, 40}, {1, 128, 40}, {1, 16, 128, 2, 4}, {1, 16, 2, 128, 4}, {1, 24, 128, 0}, {1, 24, 128, 1, 97}, {1, 32, 128, 0}, {1, 32, 1, 128, 1, 97, 1, 40}, {1, 32, 1, 1, 97, 128, 1, 40},
		// Kinds that are none.
		{1, 0}, {1, 0, 0, 0}, {1, 7}, {1, 48}, {1, 48, 0}, {1, 56, 0, 0}, {1, 127}, {1, 129, 0}, {1, 144, 0, 2, 4}, {1, 255, 255, 255, 255, 255, 255, 255, 255, 255, 127}, {1, 129, 255, 255, 255, 255, 255, 255, 255, 255, 127}, {1, 130, 128, 128, 128, 128, 128, 128, 128, 128, 16, 2, 4},
		// Bits that a kind does not have, or not there.
		{1, 9, 0, 0}, {1, 10, 0, 2}, {1, 12, 0, 2}, {1, 17, 2, 2}, {1, 18, 2, 4}, {1, 20, 2, 4}, {1, 25, 1, 97}, {1, 25, 0}, {1, 28, 0}, {1, 26, 1, 97}, {1, 30, 0}, {1, 31, 0}, {1, 33, 0}, {1, 34, 0}, {1, 37, 0}, {1, 39, 0}, {1, 41}, {1, 42}, {1, 44}, {1, 47},
		// Terms that do not rise, are twice there, or below another one.
		{2, 8, 2, 2, 8, 0, 0}, {2, 8, 0, 0, 8, 0, 0}, {2, 16, 2, 2, 8, 0, 0}, {2, 8, 0, 0, 8, 0, 2}, {2, 8, 0, 0, 40}, {2, 32, 0, 36, 0}, {2, 40, 40},
		// Values that are not right otherwise.
		{1, 8, 2, 0}, {1, 8, 0, 4}, {1, 16, 4, 2}, {1, 32, 1, 1, 97, 0}, {1, 32, 1, 0, 1, 40}, {1, 32, 1, 1, 65, 1, 40}, {1, 32, 2, 1, 98, 1, 40, 1, 97, 1, 40}, {1, 32, 2, 1, 97, 1, 40, 1, 97, 1, 40}, {1, 32, 1, 3, 97, 110, 121, 1, 40},
	} {
		none(t, "by hand", string(b), api.ErrForm)
	}
}

// 10.1: each front of a value's bytes is none's, nor are they with a byte behind them.
func TestCutAndLonger(t *testing.T) {
	for _, v := range some() {
		s := asked(v)
		if len(s) > 400 {
			continue
		}
		for n := range s {
			none(t, "cut short", s[:n], api.ErrForm)
		}
		for b := range 256 {
			none(t, "with a byte behind", s+string([]byte{byte(b)}), api.ErrForm)
		}
		none(t, "twice", s+s, api.ErrForm)
	}
}

// 10.1: bytes of which one is turned into another one are read just if they are the bytes of a right value, and then as that.
func TestTurned(t *testing.T) {
	read := 0
	for _, v := range some() {
		s := asked(v)
		if len(s) > 60 {
			continue
		}
		for i := range len(s) {
			for b := range 256 {
				turned := s[:i] + string([]byte{byte(b)}) + s[i+1:]
				if exactly(t, turned) {
					read++
				}
			}
		}
	}
	if read < 5000 {
		t.Errorf("only %d were read", read)
	}
}

// exactly holds what is read against the chapter's words, and tells whether something was.
func exactly(t *testing.T, s string) bool {
	t.Helper()
	want, rest, ok := parsed(s, 0)
	ok = ok && rest == "" && asked(want) == s && lat.Right(want)
	v, e := code.Decode(s)
	switch {
	case ok && (e != api.OK || !rank.Same(v, want)):
		t.Errorf("Decode(%v): %s %d, not %s", []byte(s), show(v), e, show(want))
	case !ok && (e != api.ErrForm || len(v.Terms) != 0):
		t.Errorf("Decode(%v): %s %d", []byte(s), show(v), e)
	}
	return ok
}

// parsed is what may be a value at the front of a text, whether it is written shortest or not, and what stands behind it.
func parsed(s string, depth int) (v api.Value, rest string, ok bool) {
	n, s, ok := counts(s)
	for i := uint64(0); ok && i < n; i++ {
		var head, m uint64
		head, s, ok = counts(s)
		t := api.Term{Kind: int(head / 8), Maybe: head%2 == 1, Any: head/2%2 == 1, Open: head/4%2 == 1}
		switch t.Kind {
		case 1, 2:
			var lo, hi uint64
			lo, s, _ = counts(s)
			hi, s, ok = counts(s)
			t.Lo, t.Hi = turnedBack(lo), turnedBack(hi)
		case 3:
			t.Text, s, ok = piece(s)
		case 4:
			m, s, ok = counts(s)
			for j := uint64(0); ok && j < m && depth < 20; j++ {
				var f api.Field
				if f.Name, s, ok = piece(s); ok {
					f.V, s, ok = parsed(s, depth+1)
				}
				t.Fields = append(t.Fields, f)
			}
		}
		v.Terms = append(v.Terms, t)
	}
	return v, s, ok
}

// counts is the number at the front of a text, and what stands behind it.
func counts(s string) (uint64, string, bool) {
	n := uint64(0)
	for i := range min(len(s), 10) {
		n = n*128 + uint64(s[i]%128)
		if s[i] < 128 {
			return n, s[i+1:], true
		}
	}
	return 0, "", false
}

// turnedBack is the number with a sign for which n stands.
func turnedBack(n uint64) int {
	if n%2 == 1 {
		return -int(n/2) - 1
	}
	return int(n / 2)
}

// piece is the text at the front of another one, and what stands behind it.
func piece(s string) (string, string, bool) {
	n, s, ok := counts(s)
	if !ok || n > uint64(len(s)) {
		return "", "", false
	}
	return s[:n], s[n:], true
}

// 10.1: all bytes of at most two, and all of up to six out of those that say something.
func TestAllShort(t *testing.T) {
	exactly(t, "")
	read := 0
	count := func(s string) {
		if exactly(t, s) {
			read++
		}
	}
	for a := range 256 {
		count(string([]byte{byte(a)}))
		for b := range 256 {
			count(string([]byte{byte(a), byte(b)}))
		}
	}
	if read != 2 {
		t.Errorf("%d of at most two bytes were read, not none and any alone", read)
	}
	signs := []byte{0, 1, 2, 8, 16, 24, 26, 32, 36, 40, 97, 128}
	var longer func(s string, n int)
	longer = func(s string, n int) {
		if count(s); n > 0 {
			for _, b := range signs {
				longer(s+string([]byte{b}), n-1)
			}
		}
	}
	longer("\x01", 5)
	longer("\x02", 4)
}

// R1, 10.1: what is very great, deep or told to be so ends, and is none.
func TestEnds(t *testing.T) {
	for _, s := range []string{
		strings.Repeat("\x01\x20\x01\x01a", 1<<14),
		strings.Repeat("\x01\x20\x01\x01a", 1<<14) + "\x01\x28",
		strings.Repeat("\x01", 1<<16), strings.Repeat("\xff", 1<<16), strings.Repeat("\x00", 1<<16), strings.Repeat("\x20", 1<<16),
		digits(1 << 62), digits(math.MaxUint64), digits(1<<40) + "\x28", "\x01\x20" + digits(math.MaxUint64), "\x01\x20" + digits(1<<40), "\x01\x18" + digits(math.MaxUint64) + "ab", "\x01\x18" + digits(1<<63) + "ab", "\x01\x20\x01" + digits(1<<40) + "a\x01\x28",
		digits(1<<20) + strings.Repeat("\x28", 1<<20), "\x01\x20" + digits(1<<16) + strings.Repeat("\x01a\x01\x28", 1<<16), "\x01\x18" + digits(1<<20) + strings.Repeat("x", 1<<20),
	} {
		none(t, "great", s, api.ErrForm)
	}
	if s, e := code.Encode(nested(1<<14, yes)); s != "" || e != api.ErrArg {
		t.Errorf("Encode of what is deep: %s %d", show(s), e)
	}
	none(t, "of the limits together", asked(value(closed(fields(32, row(512)...)...))), api.ErrForm)
}

// R5: what is handed in is not changed, and what is read shares no list with what was read before.
func TestMemory(t *testing.T) {
	behind := []api.Term{no, yes, {Kind: 9}}
	v := api.Value{Terms: behind[:2]}
	s, e := code.Encode(v)
	if s != "\x02\x08\x00\x00\x08\x02\x02" || e != api.OK || rank.Terms(behind[0], no) != 0 || behind[2].Kind != 9 {
		t.Errorf("Encode: %v %d, and %v", []byte(s), e, behind)
	}
	s = asked(value(closed(field("a", yes), field("b", yes))))
	a, _ := code.Decode(s)
	b, _ := code.Decode(s)
	a.Terms[0].Fields[0].Name = "x"
	a.Terms[0].Fields[0].V.Terms[0] = all
	if !rank.Same(b, value(closed(field("a", yes), field("b", yes)))) || !rank.Same(a.Terms[0].Fields[1].V, value(yes)) {
		t.Errorf("Decode: %v and %v share", a, b)
	}
}
