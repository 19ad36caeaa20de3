package frame_test

import (
	"hash/crc32"
	"math"
	"math/big"
	"runtime"
	"slices"
	"strconv"
	"strings"
	"sync"
	"testing"

	"treillage/api"
	"treillage/frame"
)

// some is a text of n bytes that have no order to be seen.
func some(n int) string {
	b := make([]byte, n)
	x := uint32(n) + 1
	for i := range b {
		x = x*1664525 + 1013904223
		b[i] = byte(x >> 24)
	}
	return string(b)
}

// texts are some of all lengths at which the bytes of a length change, and some that look like records.
func texts() []string {
	l := []string{"", "a", "ab", "\x00", "\xa5", "\xa5\x00", "\xa5\xa5\xa5\xa5", "é\n", sealed("\xa5\x00"), strings.Repeat("\x00", 300)}
	for _, n := range []int{3, 126, 127, 128, 129, 165, 16383, 16384, api.MaxRecord - 1, api.MaxRecord} {
		l = append(l, some(n))
	}
	return l
}

// sealed is a text with its seal behind it.
func sealed(s string) string {
	x := crc32.Checksum([]byte(s), crc32.MakeTable(crc32.Castagnoli))
	return s + string([]byte{byte(x), byte(x >> 8), byte(x >> 16), byte(x >> 24)})
}

// length is a number's bytes by the words of chapter 3.
func length(n int) string {
	s := string([]byte{byte(n % 128)})
	for n /= 128; n > 0; n /= 128 {
		s = string([]byte{byte(n%128 + 128)}) + s
	}
	return s
}

// record is a text's record by the chapter's words.
func record(s string) string {
	return sealed("\xa5" + length(len(s)) + s)
}

// asked is what promise 6.1 asks of Next, in the order of its words.
func asked(s string, at int) (string, int, api.Errno) {
	switch {
	case at < 0 || at > len(s):
		return "", 0, api.ErrArg
	case at == len(s):
		return "", 0, api.ErrNone
	case s[at] != 165:
		return "", 0, api.ErrForm
	}
	high := at + 1
	for high < len(s) && s[high] >= 128 {
		high++
	}
	if at+1 < len(s) && s[at+1] == 128 || high-at > 10 {
		return "", 0, api.ErrForm
	}
	if high == len(s) {
		return "", 0, api.ErrShort
	}
	n := new(big.Int)
	for _, b := range []byte(s[at+1 : high+1]) {
		n.Mul(n, big.NewInt(128)).Add(n, big.NewInt(int64(b%128)))
	}
	if n.BitLen() > 64 {
		return "", 0, api.ErrForm
	}
	if n.Cmp(big.NewInt(65536)) > 0 {
		return "", 0, api.ErrLong
	}
	end := high + 1 + int(n.Int64())
	if end+4 > len(s) {
		return "", 0, api.ErrShort
	}
	if sealed(s[at:end]) != s[at:end+4] {
		return "", 0, api.ErrSum
	}
	return s[high+1 : end], end + 4, api.OK
}

// row is a record's place and its text.
type row struct {
	at   int
	text string
}

// rows are the right records by the chapter's words, and the place behind the last one.
func rows(s string) (l []row, end int) {
	for {
		text, next, e := asked(s, end)
		if e != api.OK {
			return l, end
		}
		l, end = append(l, row{end, text}), next
	}
}

// each is what Each tells, up to so many records.
func each(s string, most int) (l []row) {
	for at, text := range frame.Each(s) {
		l = append(l, row{at, text})
		if len(l) == most {
			break
		}
	}
	return l
}

// held holds All and Each of s against the chapter's words.
func held(t *testing.T, s string) {
	t.Helper()
	want, end := rows(s)
	var all []string
	for _, r := range want {
		all = append(all, r.text)
	}
	if l, n := frame.All(s); !slices.Equal(l, all) || n != end {
		t.Errorf("All of %d bytes, %.40q: %d texts up to %d, not %d up to %d", len(s), s, len(l), n, len(all), end)
	}
	if l := each(s, math.MaxInt); !slices.Equal(l, want) {
		t.Errorf("Each of %d bytes, %.40q: %d records, not %d", len(s), s, len(l), len(want))
	}
}

// wrongs are bytes at the front of which no record stands, and why.
func wrongs() map[string]api.Errno {
	long := some(api.MaxRecord + 4)
	return map[string]api.Errno{
		"":                      api.ErrNone,
		"\x00":                  api.ErrForm,
		"\xa4\x00":              api.ErrForm,
		"a" + record("a"):       api.ErrForm,
		record("a")[1:]:         api.ErrForm,
		"\xa5":                  api.ErrShort,
		"\xa5\x81":              api.ErrShort,
		"\xa5\xff\xff\xff":      api.ErrShort,
		"\xa5\x80":              api.ErrForm,
		"\xa5\x80\x01":          api.ErrForm,
		"\xa5\x80\x00":          api.ErrForm,
		sealed("\xa5\x80\x01a"): api.ErrForm, // more bytes than the length needs
		"\xa5\x84\x80\x01":      api.ErrLong, // 65,537, and nothing behind it
		sealed("\xa5\x84\x80\x01" + long[:api.MaxRecord+1]): api.ErrLong,
		"\xa5\x81\x80\x80\x80\x80\x00":                      api.ErrLong,
		"\xa5\x81\xff\xff\xff\xff\xff\xff\xff\xff\x7f":      api.ErrLong, // 2^64 - 1
		"\xa5\xff\xff\xff\xff\xff\xff\xff\xff\x7f":          api.ErrLong, // 2^63 - 1
		"\xa5\x82\x80\x80\x80\x80\x80\x80\x80\x80\x00":      api.ErrForm, // 2^64
		"\xa5\xff\xff\xff\xff\xff\xff\xff\xff\xff\x7f":      api.ErrForm,
		"\xa5\xff\xff\xff\xff\xff\xff\xff\xff\xff\xff\x01":  api.ErrForm,
		"\xa5\xff\xff\xff\xff\xff\xff\xff\xff\xff":          api.ErrShort,
		"\xa5\x84\x80\x00" + long[:api.MaxRecord+3]:         api.ErrShort,
		"\xa5\x00":                                  api.ErrShort,
		"\xa5\x00\x00\x00\x00":                      api.ErrShort,
		"\xa5\x00\x00\x00\x00\x00":                  api.ErrSum,
		"\xa5\x01":                                  api.ErrShort,
		"\xa5\x01abcd":                              api.ErrShort,
		"\xa5\x01abcde":                             api.ErrSum,
		record("ab")[:len(record("ab"))-1]:          api.ErrShort,
		"\xa5\x01" + sealed("a"):                    api.ErrSum, // the seal of the text alone
		"\xa5" + sealed("\x01a"):                    api.ErrSum, // the seal without the first byte
		sealed("\xa5\x02a"):                         api.ErrShort,
		sealed("\xa5\x00a"):                         api.ErrSum,
		"\xa5\x01b" + record("a")[3:]:               api.ErrSum,
		record("a")[:3] + record("b")[3:]:           api.ErrSum,
		"\xa5\x84\x80\x00" + long[:api.MaxRecord+4]: api.ErrSum,
		"\xa5\x04four\x00\x00\x00\x00":              api.ErrSum,
	}
}

// 6.1: records written out, so that they do not hang on what the test reckons with.
func TestPutByHand(t *testing.T) {
	for s, want := range map[string]string{"": "\xa5\x00\x82\x97\x01\x28", "a": "\xa5\x01a\x5f\x91\x97\xb1", "123456789": "\xa5\x09123456789\x2c\x65\xac\xe2"} {
		if got, e := frame.Put(s); got != want || e != api.OK {
			t.Errorf("Put(%q): %q %d, not %q", s, got, e, want)
		}
	}
}

// 6.1: a record is the byte 165, the text's bytes and the seal of all that.
func TestPut(t *testing.T) {
	for _, s := range texts() {
		if got, e := frame.Put(s); got != record(s) || e != api.OK {
			t.Errorf("Put of %d bytes, %.20q: %.20q %d", len(s), s, got, e)
		}
	}
}

// 6.1: a text that is too long has no record.
func TestPutLong(t *testing.T) {
	for _, n := range []int{api.MaxRecord + 1, api.MaxRecord + 2, 1 << 20} {
		if got, e := frame.Put(some(n)); got != "" || e != api.ErrLong {
			t.Errorf("Put of %d bytes: %d bytes, %d", n, len(got), e)
		}
	}
}

// 6.1: what stands at a place, or why nothing does, ahead of anything and behind anything.
func TestNextWrong(t *testing.T) {
	for s, e := range wrongs() {
		for _, ahead := range []string{"", "x", "\xa5", record("ab")} {
			if text, next, f := frame.Next(ahead+s, len(ahead)); text != "" || next != 0 || f != e {
				t.Errorf("Next(%.40q, %d): %q %d %d, not %d", ahead+s, len(ahead), text, next, f, e)
			}
		}
	}
}

// 6.1: a place that is not there.
func TestNextPlace(t *testing.T) {
	for _, s := range []string{"", "a", record(""), record("a") + record("b")} {
		for _, at := range []int{math.MinInt, -1 << 32, -2, -1, len(s) + 1, len(s) + 2, 1 << 32, math.MaxInt} {
			if text, next, e := frame.Next(s, at); text != "" || next != 0 || e != api.ErrArg {
				t.Errorf("Next(%q, %d): %q %d %d, not ErrArg", s, at, text, next, e)
			}
		}
		if text, next, e := frame.Next(s, len(s)); text != "" || next != 0 || e != api.ErrNone {
			t.Errorf("Next(%q) at its end: %q %d %d, not ErrNone", s, text, next, e)
		}
	}
}

// 6.1, 6.3: what is put is found, whatever stands ahead of it and behind it.
func TestNext(t *testing.T) {
	for _, s := range texts() {
		put, _ := frame.Put(s)
		for _, ahead := range []string{"", "\xa5", "\x00\xff", record("ab")} {
			for _, tail := range []string{"", "\x00", "\xa5", "\xa5\x05ab", "\xff\xff\xff\xff\xff\xff\xff", record("ab"), put} {
				text, next, e := frame.Next(ahead+put+tail, len(ahead))
				if text != s || next != len(ahead)+len(put) || e != api.OK {
					t.Errorf("a record of %d bytes, %.20q: %d bytes up to %d, %d", len(s), s, len(text), next, e)
				}
			}
		}
	}
}

// 6.1: at each place of some bytes, most of which are no record's front.
func TestNextEverywhere(t *testing.T) {
	n := uint32(7)
	for range 300 {
		var b []byte
		for range 60 {
			n = n*1664525 + 1013904223
			switch n >> 29 {
			case 0, 1:
				b = append(b, 165)
			case 2:
				b = append(b, byte(128+n>>20%3))
			case 3:
				b = append(b, record(some(int(n>>16%5)))...)
			default:
				b = append(b, byte(n>>20%12))
			}
		}
		s := string(b)
		for at := -1; at <= len(s)+1; at++ {
			text, next, e := frame.Next(s, at)
			want, behind, f := asked(s, at)
			if text != want || next != behind || e != f {
				t.Fatalf("Next(%q, %d): %q %d %d, not %q %d %d", s, at, text, next, e, want, behind, f)
			}
		}
		held(t, s)
	}
}

// 6.2: records one behind the other, up to the first place at which none stands, though others stand behind it.
func TestAll(t *testing.T) {
	whole := ""
	for i, s := range texts() {
		held(t, whole)
		if l, end := frame.All(whole); len(l) != i || end != len(whole) {
			t.Errorf("All of %d records: %d up to %d of %d", i, len(l), end, len(whole))
		}
		for wrong := range wrongs() {
			if len(whole)+len(wrong) < 1<<15 {
				held(t, whole+wrong)
				held(t, whole+wrong+record("behind"))
				if l, end := frame.All(whole + wrong); len(l) != i || end != len(whole) {
					t.Errorf("All of %d records ahead of %.40q: %d up to %d of %d", i, wrong, len(l), end, len(whole))
				}
			}
		}
		whole += record(s)
	}
	if l, end := frame.All(whole); !slices.Equal(l, texts()) || end != len(whole) {
		t.Errorf("All: %d texts up to %d of %d", len(l), end, len(whole))
	}
}

// 6.2: of bytes at whose front no record stands there is nothing, and the place is 0.
func TestAllNone(t *testing.T) {
	for s := range wrongs() {
		if l, end := frame.All(s); len(l) != 0 || end != 0 {
			t.Errorf("All of %.40q: %q up to %d", s, l, end)
		}
		for at, text := range frame.Each(s) {
			t.Errorf("Each of %.40q: %d %q", s, at, text)
		}
	}
}

// 6.2: of many records none is left out, and none changes its place.
func TestMany(t *testing.T) {
	var b strings.Builder
	for i := range 3000 {
		b.WriteString(record(strconv.Itoa(i)))
	}
	held(t, b.String())
	if l, _ := frame.All(b.String()); len(l) != 3000 || l[2999] != "2999" {
		t.Errorf("%d texts", len(l))
	}
}

// ten are ten records.
func ten() (s string) {
	for i := range 10 {
		s += record(strings.Repeat("t", i))
	}
	return s
}

// 6.2: Each that is left at any record tells none behind it, and ranged over again begins anew.
func TestEachLeft(t *testing.T) {
	want, _ := rows(ten())
	told := frame.Each(ten())
	for most := 1; most <= 11; most++ {
		for range 3 {
			var l []row
			told(func(at int, text string) bool {
				l = append(l, row{at, text})
				return len(l) < most
			})
			if !slices.Equal(l, want[:min(most, 10)]) {
				t.Errorf("left behind %d: %v", most, l)
			}
		}
	}
}

// 6.2: what goes on for Each has ended when it is left, at whichever record, or by a panic. One processor alone tells it: what would only be told to stop would not have run yet.
func TestEachHasEnded(t *testing.T) {
	defer runtime.GOMAXPROCS(runtime.GOMAXPROCS(1))
	before := runtime.NumGoroutine()
	for most := 1; most <= 11; most++ {
		ended := 0
		for range 100 {
			each(ten(), most)
			if runtime.NumGoroutine() <= before {
				ended++
			}
		}
		if ended < 90 { // some room for a goroutine that is held up behind its last word
			t.Errorf("left behind %d, it has ended %d times of 100", most, ended)
		}
	}
	ended := 0
	for range 100 {
		func() {
			defer func() { _ = recover() }()
			for range frame.Each(ten()) {
				panic("left")
			}
		}()
		if runtime.NumGoroutine() <= before {
			ended++
		}
	}
	if ended < 90 {
		t.Errorf("left by a panic, it has ended %d times of 100", ended)
	}
}

// 6.2: what Each answers does nothing till it is ranged over, and may be ranged over by several at once, and within itself.
func TestEachAtOnce(t *testing.T) {
	before := runtime.NumGoroutine()
	told := frame.Each(ten())
	if n := runtime.NumGoroutine(); n > before {
		t.Errorf("%d goroutines ahead of the first range", n-before)
	}
	want, _ := rows(ten())
	var within int
	for range told {
		for at, text := range told {
			if !slices.Contains(want, row{at, text}) {
				t.Errorf("%d %q", at, text)
			}
			within++
		}
	}
	if within != 100 {
		t.Errorf("%d records within one another, not 100", within)
	}
	var all sync.WaitGroup
	for most := range 8 {
		all.Go(func() {
			var l []row
			for at, text := range told {
				if l = append(l, row{at, text}); len(l) > most {
					break
				}
			}
			if !slices.Equal(l, want[:most+1]) {
				t.Errorf("at once, left behind %d: %v", most+1, l)
			}
		})
	}
	all.Wait()
}

// 6.3: of a record that is cut short nothing is found, also behind others.
func TestCutShort(t *testing.T) {
	for _, s := range []string{"", "a", "\xa5\x00", some(130)} {
		put := record(s)
		for i := range put {
			if text, next, e := frame.Next(put[:i], 0); e == api.OK || text != "" || next != 0 {
				t.Errorf("%.20q, cut at %d: %q %d %d", put, i, text, next, e)
			}
			if l, end := frame.All(record("ab") + put[:i]); len(l) != 1 || end != len(record("ab")) {
				t.Errorf("%.20q, cut at %d: %d texts up to %d", put, i, len(l), end)
			}
		}
	}
}

// 6.3: bits turned within 32 that follow one another are found, in the text, in its seal, and across both.
func TestTurned(t *testing.T) {
	turns := []uint32{1, 3, 5, 0x81, 0xff, 0x1001, 0xffff, 0x80000001, 0xffffffff, 0x82f63b79, 0x05ec76f1, 0xdeadbeef}
	for _, s := range []string{"", "a", "\x00\x00\x00\x00\x00", "123456789", some(200)} {
		put := record(s)
		first := 8 * (1 + len(length(len(s))))
		for at := first; at < 8*len(put); at++ {
			for _, x := range turns {
				if at+32 > 8*len(put) && x>>(8*len(put)-at) != 0 {
					continue
				}
				b := []byte(put)
				for i := range 32 {
					if x>>i&1 == 1 {
						b[(at+i)/8] ^= 1 << ((at + i) % 8)
					}
				}
				if text, next, e := frame.Next(string(b)+record("ab"), 0); text != "" || next != 0 || e != api.ErrSum {
					t.Fatalf("%.20q, turned by %x at bit %d: %q %d %d", put, x, at, text, next, e)
				}
				if l, end := frame.All(string(b) + record("ab")); len(l) != 0 || end != 0 {
					t.Fatalf("%.20q, turned by %x at bit %d: %q up to %d", put, x, at, l, end)
				}
			}
		}
	}
}
