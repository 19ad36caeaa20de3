package entry_test

import (
	"slices"
	"strings"
	"testing"

	"treillage/api"
	"treillage/entry"
	"treillage/trace"
)

// formless fails, if something is read of bytes that are no right entry's.
func formless(t *testing.T, what, s string) {
	t.Helper()
	if x, e := entry.Decode(s); !zero(x) || e != shape {
		t.Errorf("%s: Decode(%s): %s %d", what, bytesOf(s), brief(x), e)
	}
}

// unwritten fails, if an entry is not refused with this error.
func unwritten(t *testing.T, x api.Entry, want api.Errno) {
	t.Helper()
	if s, e := entry.Encode(x); s != "" || e != want {
		t.Errorf("Encode(%s): %s %d, not %d", brief(x), bytesOf(s), e, want)
	}
}

// both fails, if an entry is not written as these bytes, and read out of them.
func both(t *testing.T, x api.Entry, s string) {
	t.Helper()
	if got, e := entry.Encode(x); got != s || e != fine {
		t.Errorf("Encode(%s): %s %d, not %s", brief(x), bytesOf(got), e, bytesOf(s))
	}
	if got, e := entry.Decode(s); !sameEntry(got, x) || e != fine {
		t.Errorf("Decode(%s): %s %d, not %s", bytesOf(s), brief(got), e, brief(x))
	}
}

// 25.1: entries and their bytes, written out.
func TestByHand(t *testing.T) {
	// The key's 10 bytes; the trace's 10: one, of the name b, whose result is no error and the value of one term, the number 4; the result's 6; and the steps.
	both(t, one(), "\x0aa\n9\nb + 1\n"+"\x0a\x01\x01b\x06\x00\x04\x01\x10\x08\x08"+"\x06\x00\x04\x01\x10\x0a\x0a"+"\x03")
	both(t, api.Entry{Key: "k"}, "\x01k\x01\x00\x03\x00\x01\x00\x00")
	both(t, api.Entry{Key: "k", R: wrong(24), Steps: 300}, "\x01k\x01\x00\x01\x18\x82\x2c")
	both(t, api.Entry{Key: "k", Deps: []api.Dep{dep("b", wrong(24)), dep("a", wrong(1))}, R: wrong(63), Steps: mostSteps}, "\x01k\x09\x02\x01b\x01\x18\x01a\x01\x01\x01\x3f\xc0\x80\x00")
}

// 25.1: which entries are right; those are written by the words, and read as they were.
func TestRight(t *testing.T) {
	for i, x := range right() {
		if !entry.Right(x) {
			t.Errorf("%d: not right: %s", i, brief(x))
		}
		both(t, x, model(x))
		x.Deps = append([]api.Dep{}, x.Deps...)
		both(t, x, model(x))
	}
}

// 25.1: which are not: for the key, the trace, the result, the steps alone, and for all of them.
func TestBroken(t *testing.T) {
	for i, x := range append(broken(), api.Entry{}, api.Entry{Steps: -1, R: wrong(64), Deps: badDeps()[0]}) {
		if entry.Right(x) {
			t.Errorf("%d: right: %s", i, brief(x))
		}
		unwritten(t, x, refuse)
	}
}

// 25.1: bytes that are just as many as there may be, and one more; what is not right is told ahead of that.
func TestLong(t *testing.T) {
	for _, n := range []int{mostBytes - 1, mostBytes} {
		x := sized(t, n)
		both(t, x, model(x))
	}
	for _, n := range []int{mostBytes + 1, mostBytes + 2, mostBytes + 500} {
		x := sized(t, n)
		if !entry.Right(x) {
			t.Errorf("not right: %s", brief(x))
		}
		unwritten(t, x, long)
		formless(t, "too long", model(x))
		for _, change := range []func(x *api.Entry){
			func(x *api.Entry) { x.Key = strings.Repeat("k", mostKey+1) },
			func(x *api.Entry) { x.Steps = -1 },
			func(x *api.Entry) { x.R = wrong(64) },
			func(x *api.Entry) { x.Deps[119].Name = "int" },
		} {
			unwritten(t, by(x, change), refuse)
		}
	}
	x := api.Entry{Key: strings.Repeat("k", mostKey), Deps: deps(mostDeps, came(text(strings.Repeat("t", 256))))}
	unwritten(t, x, long)
	formless(t, "too long", model(x))
	formless(t, "much too long", strings.Repeat("\x01", 1<<20))
}

// 25.1: entries are the same just if each of their parts is, right or not.
func TestSame(t *testing.T) {
	for _, x := range append(right(), broken()...) {
		if y := by(x, func(*api.Entry) {}); !entry.Same(x, y) {
			t.Errorf("not the same: %s", brief(x))
		}
		for i, change := range []func(x *api.Entry){
			func(x *api.Entry) { x.Key += "k" },
			func(x *api.Entry) { x.Key = "other" },
			func(x *api.Entry) { x.Steps++ },
			func(x *api.Entry) { x.Steps = -x.Steps - 7 },
			func(x *api.Entry) { x.R.E++ },
			func(x *api.Entry) { x.R.V.Terms = append(slices.Clone(x.R.V.Terms), number(4)) },
			func(x *api.Entry) { x.Deps = append(x.Deps, dep("z", came())) },
			func(x *api.Entry) { x.Deps = append([]api.Dep{dep("z", came())}, x.Deps...) },
		} {
			if y := by(x, change); entry.Same(x, y) || entry.Same(y, x) {
				t.Errorf("change %d: the same: %s", i, brief(x))
			}
		}
	}
	for i, change := range []func(x *api.Entry){
		func(x *api.Entry) { x.Deps = x.Deps[:2] },
		func(x *api.Entry) { x.Deps = x.Deps[1:] },
		func(x *api.Entry) { x.Deps = nil },
		func(x *api.Entry) { x.Deps[0], x.Deps[1] = x.Deps[1], x.Deps[0] },
		func(x *api.Entry) { x.Deps[0].Name = "z" },
		func(x *api.Entry) { x.Deps[1].R.E = 25 },
		func(x *api.Entry) { x.Deps[2].R = came(closed(field("n", number(301)))) },
		func(x *api.Entry) { x.Deps[0].R, x.Deps[2].R = x.Deps[2].R, x.Deps[0].R },
		func(x *api.Entry) { x.Key, x.R, x.Steps = "j", wrong(1), 3 },
	} {
		if y := by(two(), change); entry.Same(two(), y) || entry.Same(y, two()) {
			t.Errorf("change %d: the same: %s", i, brief(y))
		}
	}
	l := right()
	for i, x := range l {
		for j, y := range l {
			if entry.Same(x, y) != (i == j) {
				t.Errorf("%d and %d: %s, %s", i, j, brief(x), brief(y))
			}
		}
	}
}

// 25.1: bytes that are cut short anywhere, or have something behind them, are none's.
func TestCut(t *testing.T) {
	for _, x := range right() {
		s := model(x)
		step := 1 + len(s)/300
		for n := 0; n < len(s); n += step {
			formless(t, "cut short", s[:n])
			formless(t, "without its begin", s[n+1:])
		}
		formless(t, "cut short", s[:len(s)-1])
		for _, more := range []string{"\x00", "\x01", "\x80", "a", s} {
			formless(t, "with more behind", s+more)
		}
	}
}

// 25.1: numbers in a longer form, texts that are no trace's and no result's bytes, keys and steps beyond their bounds.
func TestParts(t *testing.T) {
	key, deps, r, steps := counted("k"), counted("\x01\x01b\x01\x18"), counted("\x00\x01\x00"), digits(200)
	if s := key + deps + r + steps; !exactly(t, s) {
		t.Errorf("none's: %s", bytesOf(s))
	}
	for what, s := range map[string]string{
		"the key's length longer":      "\x80" + key + deps + r + steps,
		"the trace's length longer":    key + "\x80" + deps + r + steps,
		"the trace's count longer":     key + counted("\x80\x01\x01b\x01\x18") + r + steps,
		"the name's length longer":     key + counted("\x01\x80\x01b\x01\x18") + r + steps,
		"the read one's length longer": key + counted("\x01\x01b\x80\x01\x18") + r + steps,
		"the read error longer":        key + counted("\x01\x01b\x02\x80\x18") + r + steps,
		"the result's length longer":   key + deps + "\x80" + r + steps,
		"the error longer":             key + deps + counted("\x80\x00\x01\x00") + steps,
		"the value's length longer":    key + deps + counted("\x00\x80\x01\x00") + steps,
		"the value's terms longer":     key + deps + counted("\x00\x02\x80\x00") + steps,
		"the steps longer":             key + deps + r + "\x80" + steps,
		"no key":                       counted("") + deps + r + steps,
		"a key too long":               counted(strings.Repeat("k", mostKey+1)) + deps + r + steps,
		"more key than there is":       "\xff\x7fk" + deps + r + steps,
		"an endless key":               strings.Repeat("\xff", 9) + "\x7f" + key + deps + r + steps,
		"too many steps":               key + deps + r + digits(mostSteps+1),
		"much too many":                key + deps + r + "\x81" + strings.Repeat("\xff", 8) + "\x7f",
		"steps without an end":         key + deps + r + "\xff",
		"no trace":                     key + counted("") + r + steps,
		"a trace with more behind it":  key + counted("\x00\x00") + r + steps,
		"a trace of one twice":         key + counted("\x02\x01b\x01\x18\x01b\x01\x18") + r + steps,
		"no result":                    key + deps + counted("") + steps,
		"a result with more behind it": key + deps + counted("\x18\x00") + steps,
		"an error that is none":        key + deps + counted("\x40") + steps,
		"no value":                     key + deps + counted("\x00") + steps,
		"a value that is not right":    key + deps + counted("\x00\x02\x01\x00") + steps,
		"without a trace":              key + r + steps,
		"without a result":             key + deps + steps,
		"trace and result turned":      key + r + deps + steps,
		"without steps":                key + deps + r,
		"nothing":                      "",
	} {
		formless(t, what, s)
		if exactly(t, s) {
			t.Errorf("%s is one's by the words", what)
		}
	}
}

// exactly holds what is read against the chapter's words, and tells whether something was.
func exactly(t *testing.T, s string) bool {
	t.Helper()
	x, ok := parsed(s)
	if !ok {
		formless(t, "by the words", s)
		return false
	}
	both(t, x, s)
	return true
}

// 25.1: any bytes: those of right entries, of which some were turned, taken out or put in; and such as nobody wrote.
func TestAnyBytes(t *testing.T) {
	read := 0
	var l []string
	for _, x := range right() {
		if s := model(x); len(s) < 1000 {
			l = append(l, s)
		}
	}
	for i := range 60000 {
		d := new(dice(i))
		s := []byte(l[d.roll(len(l))])
		for range d.roll(3) {
			at := d.roll(len(s))
			switch d.roll(4) {
			case 0:
				s[at] = byte(d.roll(256))
			case 1:
				s = slices.Delete(s, at, at+1)
			case 2:
				s = slices.Insert(s, at, byte(d.roll(256)))
			default:
				s[at] ^= 1 << d.roll(8)
			}
			if len(s) == 0 {
				s = []byte{1}
			}
		}
		if exactly(t, string(s)) {
			read++
		}
	}
	for i := range 20000 {
		d := new(dice(i))
		s := make([]byte, d.roll(20))
		for j := range s {
			s[j] = byte(d.roll(1 + d.roll(5)))
		}
		if exactly(t, string(s)) {
			read++
		}
	}
	if read < 15000 || read > 60000 {
		t.Errorf("%d were read", read)
	}
}

// 25.1, R5: what was read is not what a later call reads, nor what a trace is made of.
func TestNewMemory(t *testing.T) {
	s := model(two())
	x, _ := entry.Decode(s)
	y, _ := entry.Decode(s)
	for i := range x.Deps {
		x.Deps[i].R.V.Terms = append(x.Deps[i].R.V.Terms[:0], number(77))
	}
	x.Deps = append(x.Deps[:1], dep("z", came()))
	if z, _ := entry.Decode(s); !sameEntry(y, two()) || !sameEntry(z, two()) {
		t.Errorf("%s, %s", brief(y), brief(z))
	}
	// What lies behind a list's length is not looked at.
	w := by(two(), func(x *api.Entry) { x.Deps = append(x.Deps, dep("int", wrong(64)))[:3] })
	both(t, w, s)
	if got, _ := trace.Encode(w.Deps[:4]); got != "" {
		t.Errorf("what lies behind is right: %s", bytesOf(got))
	}
}
