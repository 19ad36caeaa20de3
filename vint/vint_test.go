package vint_test

import (
	"bytes"
	"math"
	"math/big"
	"slices"
	"strconv"
	"strings"
	"testing"

	"treillage/api"
	"treillage/vint"
)

const top = math.MaxUint64

// numbers are those beside each power of 2 (each power of 128 is one), and at the ends.
func numbers() []uint64 {
	l := []uint64{0, 1, 2, 3, 5, 100, 300, 1000, 65536, 65537, top - 2, top - 1, top}
	for i := range 64 {
		n := uint64(1) << i
		l = append(l, n-1, n, n+1)
	}
	return l
}

// ints are those with a sign, beside each power of 2, and at the ends.
func ints() []int {
	l := []int{math.MaxInt, math.MaxInt - 1, math.MinInt, math.MinInt + 1, math.MinInt + 2}
	for i := range 63 {
		n := 1 << i
		l = append(l, n-1, n, n+1, 1-n, -n, -n-1)
	}
	return l
}

// texts are some of all lengths at which the bytes of a length change, and some that are no letters.
func texts() []string {
	l := []string{"", "a", "ab", "\x00", "\x80", "\xff\xfe", "é", "a\nb\x00"}
	for _, n := range []int{126, 127, 128, 129, 255, 256, 16383, 16384, 16385, 65536, 65537} {
		l = append(l, strings.Repeat("\x81", n))
	}
	return l
}

// bytesOf are the bytes of a number by the chapter's words: groups of seven of its digits to the base of 2.
func bytesOf(n uint64) []byte {
	digits := strconv.FormatUint(n, 2)
	for len(digits)%7 != 0 {
		digits = "0" + digits
	}
	var l []byte
	for ; digits != ""; digits = digits[7:] {
		group, _ := strconv.ParseUint(digits[:7], 2, 8)
		if len(digits) > 7 {
			group += 128
		}
		l = append(l, byte(group))
	}
	return l
}

// asked is what promise 3.2 asks of Get at the front of s, in the order of its words: the number, how many bytes it has, and the error.
func asked(s string) (uint64, int, api.Errno) {
	if s != "" && s[0] == 128 {
		return 0, 0, api.ErrForm
	}
	high := 0
	for high < len(s) && s[high] >= 128 {
		high++
	}
	if high >= 10 {
		return 0, 0, api.ErrForm
	}
	if high == len(s) {
		return 0, 0, api.ErrShort
	}
	n := new(big.Int)
	for i := range high + 1 {
		n.Mul(n, big.NewInt(128))
		n.Add(n, big.NewInt(int64(s[i]%128)))
	}
	if !n.IsUint64() {
		return 0, 0, api.ErrForm
	}
	return n.Uint64(), high + 1, api.OK
}

// state holds a reader's place, error and end against what is asked.
func state(t *testing.T, what string, r *vint.Reader, left int, e, end api.Errno) {
	t.Helper()
	if r.Left() != left || r.Err() != e || r.End() != end {
		t.Errorf("%s: left %d, error %d, end %d; not %d %d %d", what, r.Left(), r.Err(), r.End(), left, e, end)
	}
}

// 3.1: some bytes written out, so that they do not hang on what the test reckons with.
func TestPutByHand(t *testing.T) {
	for n, want := range map[uint64][]byte{
		0: {0}, 1: {1}, 127: {127}, 128: {129, 0}, 129: {129, 1}, 255: {129, 127}, 256: {130, 0}, 300: {130, 44},
		16383: {255, 127}, 16384: {129, 128, 0}, 1<<21 - 1: {255, 255, 127}, 1 << 21: {129, 128, 128, 0},
		1<<63 - 1: {255, 255, 255, 255, 255, 255, 255, 255, 127},
		1 << 63:   {129, 128, 128, 128, 128, 128, 128, 128, 128, 0},
		top:       {129, 255, 255, 255, 255, 255, 255, 255, 255, 127},
	} {
		if b := vint.Put(nil, n); !bytes.Equal(b, want) {
			t.Errorf("Put %d: %v, not %v", n, b, want)
		}
	}
	for n, want := range map[int][]byte{
		0: {0}, -1: {1}, 1: {2}, -2: {3}, 2: {4}, 63: {126}, -64: {127}, 64: {129, 0}, -65: {129, 1}, 150: {130, 44},
		math.MaxInt: {129, 255, 255, 255, 255, 255, 255, 255, 255, 126},
		math.MinInt: {129, 255, 255, 255, 255, 255, 255, 255, 255, 127},
	} {
		if b := vint.PutInt(nil, n); !bytes.Equal(b, want) {
			t.Errorf("PutInt %d: %v, not %v", n, b, want)
		}
	}
	for s, want := range map[string][]byte{"": {0}, "ab": {2, 97, 98}, "\x80": {1, 128}, "é": {2, 195, 169}} {
		if b := vint.PutText(nil, s); !bytes.Equal(b, want) {
			t.Errorf("PutText %q: %v, not %v", s, b, want)
		}
	}
}

// 3.1: the bytes stand behind those that are handed in.
func TestPut(t *testing.T) {
	for _, front := range [][]byte{nil, {}, {7}, {128, 0, 255}} {
		for _, n := range numbers() {
			if b := vint.Put(front, n); !bytes.Equal(b, append(slices.Clone(front), bytesOf(n)...)) {
				t.Errorf("Put %d behind %v: %v", n, front, b)
			}
		}
		for _, n := range ints() {
			sign := new(big.Int).Mul(big.NewInt(2), big.NewInt(int64(n)))
			if n < 0 {
				sign.Sub(big.NewInt(-1), sign)
			}
			if b := vint.PutInt(front, n); !bytes.Equal(b, append(slices.Clone(front), bytesOf(sign.Uint64())...)) {
				t.Errorf("PutInt %d behind %v: %v", n, front, b)
			}
		}
		for _, s := range texts() {
			want := append(append(slices.Clone(front), bytesOf(uint64(len(s)))...), s...)
			if b := vint.PutText(front, s); !bytes.Equal(b, want) {
				t.Errorf("PutText of %d bytes behind %v is not right", len(s), front)
			}
		}
	}
}

// 3.1, R5: what is handed in stays as it was, also behind its end, and no two answers share memory.
func TestPutIsNewMemory(t *testing.T) {
	for name, put := range map[string]func(b []byte) []byte{
		"Put":      func(b []byte) []byte { return vint.Put(b, 5) },
		"PutInt":   func(b []byte) []byte { return vint.PutInt(b, 5) },
		"PutText":  func(b []byte) []byte { return vint.PutText(b, "x") },
		"no bytes": func(b []byte) []byte { return vint.PutText(b, "") },
	} {
		whole := []byte{1, 2, 3, 4, 5, 6, 7, 8}
		kept := slices.Clone(whole)
		first := put(whole[:2])
		second := put(whole[:2])
		want := slices.Clone(second)
		for i := range first {
			first[i] = 99
		}
		for _, b := range first[:cap(first)] {
			if 3 <= b && b <= 8 {
				t.Errorf("%s: what lies behind the list is handed out: %v", name, first)
			}
		}
		if !bytes.Equal(whole, kept) || !bytes.Equal(second, want) {
			t.Errorf("%s: changed: %v, %v", name, whole, second)
		}
	}
	// An answer may have room behind its end, which belongs to none of those that follow it.
	front := vint.Put(nil, 300)
	a, b := vint.Put(front, 1), vint.Put(front, 2)
	if !bytes.Equal(a, []byte{130, 44, 1}) || !bytes.Equal(b, []byte{130, 44, 2}) || !bytes.Equal(front, []byte{130, 44}) {
		t.Errorf("behind one answer: %v, %v, %v", front, a, b)
	}
}

// 3.2: what Get tells, case by case.
func TestGet(t *testing.T) {
	high := strings.Repeat("\xff", 12)
	nought := strings.Repeat("\x80", 12)
	for _, c := range []struct {
		s    string
		n    uint64
		size int
		e    api.Errno
	}{
		{"\x00", 0, 1, api.OK},
		{"\x7f\x01", 127, 1, api.OK},
		{"\x82\x2c\x82", 300, 2, api.OK},
		{"\x81" + high[:8] + "\x7f", top, 10, api.OK},
		{"\x81" + high[:8] + "\x7f" + high, top, 10, api.OK},
		{"\x81" + nought[:8] + "\x00", 1 << 63, 10, api.OK},
		{high[:8] + "\x7f", 1<<63 - 1, 9, api.OK},
		{"", 0, 0, api.ErrShort},
		{"\x81", 0, 0, api.ErrShort},
		{"\xff", 0, 0, api.ErrShort},
		{"\x81\x80", 0, 0, api.ErrShort},
		{high[:9], 0, 0, api.ErrShort},
		{"\x81" + nought[:8], 0, 0, api.ErrShort},
		{"\x80", 0, 0, api.ErrForm},
		{"\x80\x00", 0, 0, api.ErrForm},
		{"\x80\x81", 0, 0, api.ErrForm},
		{nought[:10], 0, 0, api.ErrForm},
		{high[:10], 0, 0, api.ErrForm},
		{high[:10] + "\x00", 0, 0, api.ErrForm},
		{"\x81" + nought[:9], 0, 0, api.ErrForm},
		{"\x81" + nought[:9] + "\x00", 0, 0, api.ErrForm},
		{"\x82" + nought[:8] + "\x00", 0, 0, api.ErrForm}, // 2^64
		{"\x83" + nought[:8] + "\x01", 0, 0, api.ErrForm}, // goes round to 2^63 + 1
		{high[:9] + "\x7f", 0, 0, api.ErrForm},
	} {
		r := vint.New(c.s)
		if n := r.Get(); n != c.n {
			t.Errorf("Get of %q: %d, not %d", c.s, n, c.n)
		}
		end := c.e
		if end == api.OK && c.size < len(c.s) {
			end = api.ErrLong
		}
		state(t, strconv.Quote(c.s), r, len(c.s)-c.size, c.e, end)
	}
}

// many tells of all texts of up to four of some bytes, and of many with runs as long as the longest numbers.
func many(tell func(s string)) {
	few := []string{"\x00", "\x01", "\x02", "\x7f", "\x80", "\x81", "\x82", "\xff"}
	all := []string{""}
	for from := 0; len(all[from]) < 4; from++ {
		for _, b := range few {
			all = append(all, all[from]+b)
		}
	}
	for _, s := range all {
		tell(s)
		if len(s) > 2 {
			continue
		}
		for _, b := range []string{"\x80", "\x81", "\xff"} {
			for n := 5; n <= 11; n++ {
				for _, tail := range []string{"", "\x00", "\x7f", "\x80", "\x00\x00"} {
					tell(s + strings.Repeat(b, n) + tail)
				}
			}
		}
	}
}

// 3.2, 3.4: all of those texts against the chapter's words; and what is read was written just so.
func TestGetOfMany(t *testing.T) {
	many(func(s string) {
		want, size, e := asked(s)
		r := vint.New(s)
		if n := r.Get(); n != want || r.Err() != e || r.Left() != len(s)-size {
			t.Errorf("Get of %q: %d %d, left %d; not %d %d", s, n, r.Err(), r.Left(), want, e)
		}
		if e == api.OK && string(vint.Put(nil, want)) != s[:size] {
			t.Errorf("%q is read as %d, which is written as %q", s, want, vint.Put(nil, want))
		}
		i := vint.New(s)
		if n := i.GetInt(); i.Err() != e || i.Left() != len(s)-size || e != api.OK && n != 0 {
			t.Errorf("GetInt of %q: %d %d, left %d", s, n, i.Err(), i.Left())
		} else if e == api.OK && string(vint.PutInt(nil, n)) != s[:size] {
			t.Errorf("%q is read as %d, which is written as %q", s, n, vint.PutInt(nil, n))
		}
		x := vint.New(s)
		if got := x.GetText(4096); x.Err() == api.OK && string(vint.PutText(nil, got)) != s[:len(s)-x.Left()] {
			t.Errorf("%q is read as %q, which is written as %q", s, got, vint.PutText(nil, got))
		}
	})
}

// 3.2: a number up to the most is read, one above it is not; what Get notes is noted ahead of that.
func TestMost(t *testing.T) {
	for _, c := range []struct {
		s    string
		most uint64
		n    uint64
		e    api.Errno
	}{
		{"\x00", 0, 0, api.OK},
		{"\x01", 0, 0, api.ErrRange},
		{"\x05", 5, 5, api.OK},
		{"\x06", 5, 0, api.ErrRange},
		{"\x04", 5, 4, api.OK},
		{"\x82\x2c", 300, 300, api.OK},
		{"\x82\x2c", 299, 0, api.ErrRange},
		{"\x81\x00", 127, 0, api.ErrRange},
		{"\x81\xff\xff\xff\xff\xff\xff\xff\xff\x7f", top, top, api.OK},
		{"\x81\xff\xff\xff\xff\xff\xff\xff\xff\x7f", top - 1, 0, api.ErrRange},
		{"\x81\xff\xff\xff\xff\xff\xff\xff\xff\x7f", 0, 0, api.ErrRange},
		{"", 0, 0, api.ErrShort},
		{"\x82", 1, 0, api.ErrShort},
		{"\x80\x05", 9, 0, api.ErrForm},
		{"\x82\x80\x80\x80\x80\x80\x80\x80\x80\x00", 0, 0, api.ErrForm},
		{"\xff\xff\xff\xff\xff\xff\xff\xff\xff\xff", 0, 0, api.ErrForm},
	} {
		r := vint.New(c.s)
		left := 0
		if c.e != api.OK {
			left = len(c.s)
		}
		if n := r.Most(c.most); n != c.n {
			t.Errorf("Most(%d) of %q: %d, not %d", c.most, c.s, n, c.n)
		}
		state(t, strconv.Quote(c.s), r, left, c.e, c.e)
	}
}

// 3.2: numbers with a sign, at both ends of int.
func TestGetInt(t *testing.T) {
	for s, want := range map[string]int{
		"\x00": 0, "\x01": -1, "\x02": 1, "\x03": -2, "\x04": 2, "\x7f": -64, "\x81\x00": 64, "\x82\x2d": -151,
		"\x81\xff\xff\xff\xff\xff\xff\xff\xff\x7d": math.MinInt + 1,
		"\x81\xff\xff\xff\xff\xff\xff\xff\xff\x7e": math.MaxInt,
		"\x81\xff\xff\xff\xff\xff\xff\xff\xff\x7f": math.MinInt,
	} {
		r := vint.New(s)
		if n := r.GetInt(); n != want {
			t.Errorf("GetInt of %q: %d, not %d", s, n, want)
		}
		state(t, strconv.Quote(s), r, 0, api.OK, api.OK)
	}
	for s, e := range map[string]api.Errno{"": api.ErrShort, "\x81": api.ErrShort, "\x80\x01": api.ErrForm, "\x82\x80\x80\x80\x80\x80\x80\x80\x80\x01": api.ErrForm} {
		r := vint.New(s)
		if n := r.GetInt(); n != 0 {
			t.Errorf("GetInt of %q: %d", s, n)
		}
		state(t, strconv.Quote(s), r, len(s), e, e)
	}
}

// 3.2: texts up to the most are read; of the others the length is told first, then how little stands there.
func TestGetText(t *testing.T) {
	huge := "\x81\xff\xff\xff\xff\xff\xff\xff\xff\x7f" // 2^64 - 1
	half := "\xff\xff\xff\xff\xff\xff\xff\xff\x7f"     // 2^63 - 1
	more := "\x81\x80\x80\x80\x80\x80\x80\x80\x80\x00" // 2^63
	for _, c := range []struct {
		s    string
		most int
		got  string
		left int
		e    api.Errno
	}{
		{"\x02ab", 2, "ab", 0, api.OK},
		{"\x02ab", math.MaxInt, "ab", 0, api.OK},
		{"\x02abc", 2, "ab", 1, api.OK},
		{"\x00", 0, "", 0, api.OK},
		{"\x00", -1, "", 0, api.OK},
		{"\x00ab", math.MinInt, "", 2, api.OK},
		{"\x03\x80\x00\xff", 3, "\x80\x00\xff", 0, api.OK},
		{"\x01a", 0, "", 2, api.ErrRange},
		{"\x01a", -1, "", 2, api.ErrRange},
		{"\x01a", math.MinInt, "", 2, api.ErrRange},
		{"\x03abc", 2, "", 4, api.ErrRange},
		{"\x03", 2, "", 1, api.ErrRange},
		{huge + "a", math.MaxInt, "", 11, api.ErrRange},
		{more + "a", math.MaxInt, "", 11, api.ErrRange},
		{half + "a", math.MaxInt, "", 10, api.ErrShort},
		{half + "a", math.MaxInt - 1, "", 10, api.ErrRange},
		{"\x03ab", 3, "", 3, api.ErrShort},
		{"\x01", 1, "", 1, api.ErrShort},
		{"\x81\x00" + strings.Repeat("a", 127), 128, "", 129, api.ErrShort},
		{"\x81\x00" + strings.Repeat("a", 128), 127, "", 130, api.ErrRange},
		{"", 9, "", 0, api.ErrShort},
		{"\x81", 0, "", 1, api.ErrShort},
		{"\x80\x01a", 9, "", 3, api.ErrForm},
		{"\xff\xff\xff\xff\xff\xff\xff\xff\xff\x7f", 0, "", 10, api.ErrForm},
	} {
		r := vint.New(c.s)
		if got := r.GetText(c.most); got != c.got {
			t.Errorf("GetText(%d) of %q: %q, not %q", c.most, c.s, got, c.got)
		}
		end := c.e
		if end == api.OK && c.left > 0 {
			end = api.ErrLong
		}
		state(t, strconv.Quote(c.s), r, c.left, c.e, end)
	}
}

// 3.2: behind a noted error each call answers nothing, and neither the place nor the error goes on, even where something right stands.
func TestBehindAnError(t *testing.T) {
	for _, c := range []struct {
		s     string
		wrong func(r *vint.Reader)
		e     api.Errno
	}{
		{"\x01\x80\x01\x01\x01", func(r *vint.Reader) { r.Get() }, api.ErrForm},
		{"\x01\x05\x01\x01\x01", func(r *vint.Reader) { r.Most(4) }, api.ErrRange},
		{"\x01\x80\x01\x01\x01", func(r *vint.Reader) { r.GetInt() }, api.ErrForm},
		{"\x01\x05abcd", func(r *vint.Reader) { r.GetText(5) }, api.ErrShort},
		{"\x01\x02abcd", func(r *vint.Reader) { r.GetText(1) }, api.ErrRange},
		{"\x01\x81", func(r *vint.Reader) { r.Get() }, api.ErrShort},
		{"\x01", func(r *vint.Reader) { r.Get() }, api.ErrShort},
	} {
		r := vint.New(c.s)
		if n := r.Get(); n != 1 {
			t.Fatalf("%q: %d ahead", c.s, n)
		}
		c.wrong(r)
		state(t, strconv.Quote(c.s), r, len(c.s)-1, c.e, c.e)
		for range 3 {
			if r.Get() != 0 || r.Most(top) != 0 || r.Most(0) != 0 || r.GetInt() != 0 || r.GetText(9) != "" || r.GetText(-1) != "" {
				t.Errorf("%q is read behind the error", c.s)
			}
			state(t, strconv.Quote(c.s), r, len(c.s)-1, c.e, c.e)
		}
	}
}

// 3.3: End asks, and notes nothing: what stands behind the place can be read still.
func TestEnd(t *testing.T) {
	r := vint.New("\x05\x01a\x03\x82\x2c")
	state(t, "at the front", r, 6, api.OK, api.ErrLong)
	if n := r.Get(); n != 5 {
		t.Errorf("Get: %d", n)
	}
	state(t, "behind a number", r, 5, api.OK, api.ErrLong)
	if s := r.GetText(1); s != "a" {
		t.Errorf("GetText: %q", s)
	}
	state(t, "behind a text", r, 3, api.OK, api.ErrLong)
	if n := r.GetInt(); n != -2 {
		t.Errorf("GetInt: %d", n)
	}
	state(t, "behind a number with a sign", r, 2, api.OK, api.ErrLong)
	if n := r.Most(300); n != 300 {
		t.Errorf("Most: %d", n)
	}
	state(t, "behind all", r, 0, api.OK, api.OK)
	if n := r.Get(); n != 0 {
		t.Errorf("Get behind all: %d", n)
	}
	state(t, "beyond all", r, 0, api.ErrShort, api.ErrShort)
	state(t, "of nothing", vint.New(""), 0, api.OK, api.OK)
}

// 3.3: a nil reader answers, and two readers of one text go each its own way.
func TestReaders(t *testing.T) {
	var none *vint.Reader
	if none.Get() != 0 || none.Most(top) != 0 || none.GetInt() != 0 || none.GetText(9) != "" {
		t.Errorf("a nil reader reads")
	}
	state(t, "a nil reader", none, 0, api.ErrArg, api.ErrArg)
	a, b := vint.New("\x01\x02"), vint.New("\x01\x02")
	a.Most(0)
	if n := b.Get(); n != 1 {
		t.Errorf("the other reader: %d", n)
	}
	state(t, "the one reader", a, 2, api.ErrRange, api.ErrRange)
	state(t, "the other reader", b, 1, api.OK, api.ErrLong)
}

// 3.4: what is written is read, whatever stands behind it.
func TestReadAgain(t *testing.T) {
	for _, tail := range []string{"", "\x00", "\x80", "\xff\xff\xff\xff\xff\xff\xff\xff\xff\xff\xff", "abc"} {
		for _, n := range numbers() {
			a, b := vint.New(string(vint.Put(nil, n))+tail), vint.New(string(vint.Put(nil, n))+tail)
			if a.Get() != n || b.Most(n) != n || a.Err() != api.OK || b.Err() != api.OK || a.Left() != len(tail) || b.Left() != len(tail) {
				t.Errorf("%d is not read again ahead of %q", n, tail)
			}
		}
		for _, n := range ints() {
			r := vint.New(string(vint.PutInt(nil, n)) + tail)
			if r.GetInt() != n || r.Err() != api.OK || r.Left() != len(tail) {
				t.Errorf("%d is not read again ahead of %q", n, tail)
			}
		}
		for _, s := range texts() {
			r := vint.New(string(vint.PutText(nil, s)) + tail)
			if r.GetText(len(s)) != s || r.Err() != api.OK || r.Left() != len(tail) {
				t.Errorf("a text of %d bytes is not read again ahead of %q", len(s), tail)
			}
		}
	}
}

// 3.4: what is cut off ahead of its end is not read.
func TestCutOff(t *testing.T) {
	for _, n := range numbers() {
		s := string(vint.Put(nil, n))
		for i := range len(s) {
			r := vint.New(s[:i])
			if r.Get() != 0 || r.Err() != api.ErrShort || r.Left() != i {
				t.Errorf("%d, cut off at %d: %d", n, i, r.Err())
			}
		}
	}
	s := string(vint.PutText(nil, strings.Repeat("a", 130)))
	for i := range len(s) {
		r := vint.New(s[:i])
		if r.GetText(130) != "" || r.Err() != api.ErrShort || r.Left() != i {
			t.Errorf("a text, cut off at %d: %d", i, r.Err())
		}
	}
}
