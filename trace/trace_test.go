package trace_test

import (
	"math"
	"slices"
	"strings"
	"testing"

	"treillage/api"
	"treillage/lat"
	"treillage/trace"
)

// OK, ErrArg and ErrForm by their numbers.
const (
	fine   = 0
	refuse = 1
	shape  = 2
)

// noResult fails, if something is answered beside the error of bytes that are no result's.
func noResult(t *testing.T, what, s string) {
	t.Helper()
	if r, e := trace.Read(s); r.E != 0 || r.V.Terms != nil || e != shape {
		t.Errorf("%s: Read(%s): %s %d", what, bytesOf(s), brief(r), e)
	}
}

// noTrace fails, if something is answered beside the error of bytes that are no trace's.
func noTrace(t *testing.T, what, s string) {
	t.Helper()
	if l, e := trace.Decode(s); len(l) != 0 || e != shape {
		t.Errorf("%s: Decode(%s): %s %d", what, bytesOf(s), brief(l), e)
	}
}

// 21.1: which results are right: each error without a value, and each right value without an error.
func TestGood(t *testing.T) {
	for _, r := range some() {
		if !trace.Good(r) {
			t.Errorf("%s is not right", brief(r))
		}
	}
	for _, r := range append(broken(), unwritten()...) {
		if trace.Good(r) {
			t.Errorf("%s is right", brief(r))
		}
	}
	for e := -300; e <= 300; e++ {
		if got := trace.Good(wrong(api.Errno(e))); got != (e >= 0 && e <= 63) {
			t.Errorf("the error %d alone: %t", e, got)
		}
		if got := trace.Good(wrong(api.Errno(e), yes)); got != (e == 0) {
			t.Errorf("the error %d with a value: %t", e, got)
		}
	}
	if !trace.Good(api.Result{}) || !trace.Good(api.Result{E: 24, V: api.Value{Terms: []api.Term{}}}) {
		t.Error("none, and a list without terms beside an error, are not right")
	}
}

// 21.1: results are the same just if their errors and values are, right or not.
func TestSame(t *testing.T) {
	l := slices.Concat(some(), broken(), unwritten())
	for i, a := range l {
		for j, b := range l {
			if got := trace.Same(a, b); got != (i == j) || got != sameModel(a, b) {
				t.Errorf("Same(%s, %s): %t", brief(a), brief(b), got)
			}
		}
	}
}

// alike are pairs of results that are the same, though their lists are not written down alike.
func alike() [][2]api.Result {
	wide := make([]api.Term, 1, 9)
	wide[0] = yes
	wide[:2][1] = all
	flat := []api.Field{}
	return [][2]api.Result{
		{api.Result{}, came([]api.Term{}...)},
		{api.Result{}, api.Result{V: api.Value{Terms: []api.Term{}}}},
		{api.Result{V: api.Value{Terms: wide[:0]}}, came()},
		{api.Result{V: api.Value{Terms: wide}}, came(yes)},
		{wrong(24), api.Result{E: 24, V: api.Value{Terms: wide[:0]}}},
		{came(closed()), came(closed(flat...))},
		{came(open()), came(api.Term{Kind: 4, Open: true, Fields: make([]api.Field, 0, 3)})},
		{came(yes), came(api.Term{Kind: 1, Lo: 1, Hi: 1, Fields: flat})},
		{came(closed(field("a", yes))), came(closed(api.Field{Name: strings.Clone("a"), V: api.Value{Terms: wide}}))},
		{came(text("ab")), came(text(string([]byte{97, 98})))},
	}
}

// 21.1, 21.2: what is the same, however it is written down, has the same bytes.
func TestAlike(t *testing.T) {
	for _, c := range alike() {
		a, b := c[0], c[1]
		if !trace.Same(a, b) || !trace.Same(b, a) || !trace.Good(a) || !trace.Good(b) {
			t.Errorf("%#v and %#v are not the same, or not right", a, b)
		}
		if !trace.Equal([]api.Dep{dep("a", a)}, []api.Dep{dep("a", b)}) {
			t.Errorf("traces of %#v and %#v are not the same", a, b)
		}
		s, e := trace.Write(a)
		u, f := trace.Write(b)
		if s != u || s == "" || e != fine || f != fine {
			t.Errorf("%#v and %#v have the bytes %s and %s, %d %d", a, b, bytesOf(s), bytesOf(u), e, f)
		}
	}
	if trace.Same(came(), wrong(5)) || trace.Same(wrong(5), wrong(6)) || trace.Same(wrong(24), wrong(24, yes)) || trace.Same(came(yes), wrong(1, yes)) {
		t.Error("unlike errors, or one with a value and one without, are the same")
	}
}

// 21.1: which traces are right, of how many, and with which names and results.
func TestRight(t *testing.T) {
	three := []api.Dep{dep("c", came(yes)), dep("a", wrong(23)), dep("b", came())}
	for _, l := range [][]api.Dep{nil, {}, deps(1, wrong(24)), deps(1, came()), three, {three[1], three[2], three[0]}, {three[2], three[1], three[0]}, deps(255, came(all)), deps(256, came(number(1, 2))), deps(256, wrong(1)), with(deps(256, came(no)), 0, dep("a234567890123456", came(closed())))} {
		if !trace.Right(l) {
			t.Errorf("%s is not right", brief(l))
		}
	}
	for _, l := range [][]api.Dep{deps(257, came(all)), deps(257, wrong(24)), deps(1000, came()), slices.Repeat(three, 2), slices.Repeat(three[:1], 2), slices.Repeat(three[:1], 300), {three[0], three[1], three[0]}, {three[0], three[1], three[2], dep("a", wrong(24))}, with(deps(256, came(no)), 255, deps(256, came(no))[0])} {
		if trace.Right(l) {
			t.Errorf("%s is right", brief(l))
		}
	}
	for at := range three {
		for _, s := range namesWrong() {
			if trace.Right(with(three, at, dep(s, came()))) {
				t.Errorf("%q is the name of a right trace", s)
			}
		}
		for _, r := range slices.Concat(broken(), unwritten()) {
			if trace.Right(with(three, at, dep("x", r))) {
				t.Errorf("%s is in a right trace", brief(r))
			}
		}
		for _, r := range some() {
			if !trace.Right(with(three, at, dep("x", r))) {
				t.Errorf("%s is in no right trace", brief(r))
			}
		}
	}
}

// 21.1: traces are the same just if they have the same names, in order, with the same results, right or not.
func TestEqual(t *testing.T) {
	l := [][]api.Dep{
		nil, {dep("a", came())}, {dep("b", came())}, {dep("", came())}, {dep("A", came())}, {dep("a", came(yes))}, {dep("a", wrong(1))}, {dep("a", wrong(2))}, {dep("a", wrong(-1))}, {dep("a", wrong(1, yes))}, {dep("a", came(yes, no))}, {dep("a", came(no, yes))},
		{dep("a", came()), dep("a", came())}, {dep("a", came()), dep("b", came())}, {dep("b", came()), dep("a", came())}, {dep("a", came()), dep("b", came(yes))}, {dep("a", came(yes)), dep("b", came())}, {dep("a", came()), dep("b", wrong(3)), dep("c", came())}, {dep("a", came()), dep("b", came()), dep("c", came())},
		deps(256, came()), deps(257, came()), deps(256, wrong(9)), with(deps(256, came()), 255, dep("n1001", came(no))), deps(257, came())[1:200], append(deps(3, came()), dep("n1004", came())),
	}
	for i := range 60 {
		if x := rolledDeps(new(dice(i))); !slices.ContainsFunc(l, func(y []api.Dep) bool { return sameDeps(x, y) }) {
			l = append(l, x)
		}
	}
	for i, a := range l {
		for j, b := range l {
			if got := trace.Equal(a, b); got != (i == j) || got != sameDeps(a, b) {
				t.Errorf("Equal(%s, %s): %t", brief(a), brief(b), got)
			}
		}
		if !trace.Equal(a, slices.Clone(a)) {
			t.Errorf("%s is not the same as its copy", brief(a))
		}
	}
	if !trace.Equal(nil, []api.Dep{}) || !trace.Equal([]api.Dep{}, nil) {
		t.Error("a nil trace and one without results are not the same")
	}
}

// 21.2: results' bytes, written out.
func TestResultsByHand(t *testing.T) {
	long := string([]byte{0, 129, 76, 1, 24, 129, 72}) + strings.Repeat("x", 200)
	for s, r := range map[string]api.Result{
		"\x18": wrong(24), "\x01": wrong(1), "\x3f": wrong(63),
		"\x00\x01\x00": came(), "\x00\x02\x01\x28": came(all), "\x00\x04\x01\x10\x02\x04": came(number(1, 2)), "\x00\x04\x01\x08\x02\x02": came(yes), "\x00\x04\x01\x18\x01a": came(text("a")), "\x00\x03\x01\x1b\x00": came(maybe(texts)), "\x00\x03\x01\x24\x00": came(open()),
		"\x00\x09\x01\x20\x01\x01a\x01\x08\x02\x02": came(closed(field("a", yes))), long: came(text(strings.Repeat("x", 200))),
	} {
		if got, e := trace.Write(r); got != s || e != fine {
			t.Errorf("Write(%s): %s %d, not %s", brief(r), bytesOf(got), e, bytesOf(s))
		}
		if got, e := trace.Read(s); !sameModel(got, r) || e != fine {
			t.Errorf("Read(%s): %s %d, not %s", bytesOf(s), brief(got), e, brief(r))
		}
	}
}

// 21.2: traces' bytes, written out.
func TestTracesByHand(t *testing.T) {
	for s, l := range map[string][]api.Dep{
		"\x00":                                       nil,
		"\x01\x01a\x01\x18":                          {dep("a", wrong(24))},
		"\x01\x01b\x06\x00\x04\x01\x10\x08\x08":      {dep("b", came(number(4, 4)))},
		"\x01\x03net\x03\x00\x01\x00":                {dep("net", came())},
		"\x02\x01b\x01\x17\x01a\x04\x00\x02\x01\x28": {dep("b", wrong(23)), dep("a", came(all))},
		"\x02\x01a\x04\x00\x02\x01\x28\x01b\x01\x17": {dep("a", came(all)), dep("b", wrong(23))},
		"\x01\x01a\x81\x4f\x00\x81\x4c\x01\x18\x81\x48" + strings.Repeat("x", 200): {dep("a", came(text(strings.Repeat("x", 200))))},
	} {
		if got, e := trace.Encode(l); got != s || e != fine {
			t.Errorf("Encode(%s): %s %d, not %s", brief(l), bytesOf(got), e, bytesOf(s))
		}
		if got, e := trace.Decode(s); !sameDeps(got, l) || e != fine {
			t.Errorf("Decode(%s): %s %d, not %s", bytesOf(s), brief(got), e, brief(l))
		}
	}
}

// 21.2, 21.3: right results are written by the chapter's words, and read as they were; unlike ones have unlike bytes.
func TestResultsWrittenAndRead(t *testing.T) {
	seen := map[string]bool{}
	for _, r := range some() {
		s, e := trace.Write(r)
		if s != resultModel(r) || e != fine {
			t.Fatalf("Write(%s): %s %d, not %s", brief(r), bytesOf(s), e, bytesOf(resultModel(r)))
		}
		if got, e := trace.Read(s); !sameModel(got, r) || e != fine {
			t.Fatalf("%s is read as %s %d", brief(r), brief(got), e)
		}
		if seen[s] {
			t.Errorf("%s and another one have the same bytes", brief(r))
		}
		seen[s] = true
	}
}

// 21.2, 21.3: right traces are written by the chapter's words, and read as they were, in their order; unlike ones have unlike bytes.
func TestTracesWrittenAndRead(t *testing.T) {
	l := [][]api.Dep{nil, deps(1, came()), deps(2, came()), deps(127, wrong(24)), deps(128, wrong(24)), deps(255, came(yes)), deps(256, came(yes)), deps(256, came(text(strings.Repeat("x", 256)))), deps(256, wrong(63)), deps(3, came(row(512)...))}
	for _, r := range some() {
		l = append(l, []api.Dep{dep("a", r)}, []api.Dep{dep("a234567890123456", r)}, []api.Dep{dep("b", came()), dep("a", r)}, []api.Dep{dep("a", r), dep("b", came())})
	}
	for i := range 2000 {
		l = append(l, rolledDeps(new(dice(i))))
	}
	seen := map[string][]api.Dep{}
	for _, x := range l {
		s, e := trace.Encode(x)
		if s != traceModel(x) || e != fine {
			t.Fatalf("Encode(%s): %s %d, not %s", brief(x), bytesOf(s), e, bytesOf(traceModel(x)))
		}
		if got, e := trace.Decode(s); !sameDeps(got, x) || e != fine {
			t.Fatalf("%s is read as %s %d", brief(x), brief(got), e)
		}
		if y, ok := seen[s]; ok && !sameDeps(x, y) {
			t.Errorf("%s and %s have the same bytes", brief(x), brief(y))
		}
		seen[s] = x
	}
	if len(seen) < 1500 {
		t.Errorf("only %d traces are unlike", len(seen))
	}
}

// 21.2: what is not right is not written.
func TestNotWritten(t *testing.T) {
	two := []api.Dep{dep("b", came(yes)), dep("a", wrong(24))}
	refused := func(what string, l []api.Dep) {
		t.Helper()
		if s, e := trace.Encode(l); s != "" || e != refuse {
			t.Errorf("%s: Encode(%s): %s %d", what, brief(l), bytesOf(s), e)
		}
	}
	for _, r := range slices.Concat(broken(), unwritten()) {
		if s, e := trace.Write(r); s != "" || e != refuse {
			t.Errorf("Write(%s): %s %d", brief(r), bytesOf(s), e)
		}
		refused("alone", []api.Dep{dep("x", r)})
		refused("first", with(two, 0, dep("x", r)))
		refused("last", with(two, 1, dep("x", r)))
	}
	for _, s := range namesWrong() {
		refused("a name that is none", []api.Dep{dep(s, came())})
		refused("a name that is none", append(slices.Clone(two), dep(s, wrong(24))))
	}
	refused("one more than there may be", deps(257, came()))
	refused("far more", deps(1<<12, wrong(24)))
	refused("a name twice", append(slices.Clone(two), dep("b", came())))
	refused("a name twice", []api.Dep{two[0], two[0]})
}

// 21.2: what would be the bytes of what is not right is not read.
func TestNotRead(t *testing.T) {
	two := []api.Dep{dep("b", came(yes)), dep("a", wrong(24))}
	for _, r := range broken() {
		s := resultModel(r)
		noResult(t, "a value that is not right", s)
		noTrace(t, "a result that is not right", "\x01\x01a"+counted(s))
		noTrace(t, "a result that is not right, the last one", "\x02\x01b\x01\x18\x01a"+counted(s))
	}
	for _, n := range []uint64{64, 65, 127, 128, 255, 256, 256 + 24, 1 << 14, 1<<32 + 24, 1 << 62, 1<<63 + 24, math.MaxUint64, math.MaxUint64 - 23} {
		noResult(t, "past the errors", digits(n))
		noResult(t, "past the errors, with a value", digits(n)+"\x01\x00")
		noTrace(t, "past the errors", "\x01\x01a"+counted(digits(n)))
	}
	for e := range 63 {
		for _, v := range []api.Value{value(), value(all), value(yes)} {
			noResult(t, "an error with a value behind it", digits(uint64(e+1))+counted(valueModel(v)))
			noTrace(t, "an error with a value behind it", "\x01\x01a"+counted(digits(uint64(e+1))+counted(valueModel(v))))
		}
	}
	for _, s := range namesWrong() {
		noTrace(t, "a name that is none", traceModel([]api.Dep{dep(s, came())}))
		noTrace(t, "a name that is none", traceModel(with(two, 1, dep(s, came()))))
		noTrace(t, "a name that is none", traceModel(with(two, 0, dep(s, wrong(24)))))
	}
	noTrace(t, "a name twice", traceModel(slices.Repeat(two, 2)))
	noTrace(t, "a name twice", traceModel([]api.Dep{two[0], two[1], dep("b", wrong(24))}))
	noTrace(t, "one more than there may be", traceModel(deps(257, came())))
	noTrace(t, "one more than there may be", traceModel(deps(257, wrong(24))))
}

// 21.2: each front of a result's and of a trace's bytes is none's, nor are they with something behind them.
func TestCutAndLonger(t *testing.T) {
	for _, r := range some() {
		s := resultModel(r)
		for n := range min(len(s), 400) {
			noResult(t, "cut short", s[:n])
		}
		for b := range 256 {
			noResult(t, "a byte too many", s+string([]byte{byte(b)}))
		}
		noResult(t, "twice", s+s)
	}
	for i := range 60 {
		s := traceModel(rolledDeps(new(dice(i))))
		for n := range min(len(s), 2000) {
			noTrace(t, "cut short", s[:n])
		}
		for b := range 256 {
			noTrace(t, "a byte too many", s+string([]byte{byte(b)}))
		}
		noTrace(t, "twice", s+s)
	}
	for _, l := range [][]api.Dep{deps(256, wrong(24)), deps(256, came())} {
		s := traceModel(l)
		for n := range s {
			noTrace(t, "cut short", s[:n])
		}
	}
}

// 21.2: numbers that are not written in the shortest way, and lengths that go past the end or end too soon, in each place.
func TestFormByHand(t *testing.T) {
	for _, s := range []string{
		"", "\x80\x18", "\x80\x00\x01\x00", "\x00\x80\x01\x00", "\x00\x01\x80", "\x00\x02\x80\x00", "\x00\x03\x80\x01\x28", "\x00\x05\x01\x10\x80\x02\x04", "\x80", "\x80\x80", "\x98",
		"\x00", "\x00\x00", "\x00\x01", "\x00\x02\x00", "\x00\x03\x01\x28", "\x00\x01\x01\x28", "\x00\x7f\x01\x28", "\x00\x02\x01\x28\x00", "\x00\x00\x01\x28", "\x00\x01\x00\x00", "\x00\x02\x00\x00", "\x00\x03\x01\x28\x00", "\x00\xff\xff\xff\xff\xff\xff\xff\xff\x7f\x00", "\x00\x81\xff\xff\xff\xff\xff\xff\xff\xff\x7f\x00", "\x00\x82\x80\x80\x80\x80\x80\x80\x80\x80\x80\x00",
	} {
		noResult(t, "by hand", s)
		noTrace(t, "by hand, in a trace", "\x01\x01a"+counted(s))
	}
	for _, s := range []string{
		"", "\x80", "\x80\x00", "\x80\x01\x01a\x01\x18", "\x01\x80\x01a\x01\x18", "\x01\x01a\x80\x01\x18", "\x01\x01a\x02\x80\x18",
		"\x01", "\x01\x01", "\x01\x01a", "\x01\x01a\x00", "\x01\x01a\x01", "\x01\x01a\x02\x18", "\x01\x02a\x01\x18", "\x01\x00\x01\x18", "\x01\x04a\x01\x18", "\x00\x00", "\x00\x01a\x01\x18", "\x01\x01a\x01\x18\x00", "\x01\x01a\x01\x18\x01b\x01\x18", "\x02\x01a\x01\x18", "\x03\x01a\x01\x18\x01b\x01\x18", "\x01\x01a\x18", "\x01a\x01\x18", "\x01\x01a\x00\x01\x00", "\x01\x01a\x03\x00\x02\x00", "\x01\x01a\x02\x00\x01\x00", "\x01\x01a\x04\x00\x01\x00",
		"\x02\x01a\x01\x18\x01a\x01\x18", "\x02\x01a\x01\x18\x01a\x03\x00\x01\x00", "\x01\x01A\x01\x18", "\x01\x03int\x01\x18", "\x01\x11a2345678901234567\x01\x18", "\x01\xff\xff\xff\xff\xff\xff\xff\xff\x7fa\x01\x18", "\x01\x01a\xff\xff\xff\xff\xff\xff\xff\xff\x7f\x18", "\x82\x01\x01a\x01\x18", "\x81\x80\x80\x80\x80\x80\x80\x80\x80\x01\x01a\x01\x18",
	} {
		noTrace(t, "by hand", s)
	}
}

// resultParsed is what may be the result of some bytes, whether they are written shortest or not.
func resultParsed(s string) (r api.Result, ok bool) {
	n, s, ok := counts(s)
	if !ok || n > 1<<20 {
		return r, false
	}
	if r.E = api.Errno(n); n > 0 {
		return r, s == ""
	}
	v, s, ok := piece(s)
	if ok && s == "" {
		r.V, s, ok = valueParsed(v, 0)
	}
	return r, ok && s == ""
}

// traceParsed is likewise of a trace.
func traceParsed(s string) (l []api.Dep, ok bool) {
	n, s, ok := counts(s)
	for i := uint64(0); ok && i < n; i++ {
		var d api.Dep
		var r string
		if d.Name, s, ok = piece(s); !ok {
			break
		}
		if r, s, ok = piece(s); ok {
			d.R, ok = resultParsed(r)
		}
		l = append(l, d)
	}
	return l, ok && s == ""
}

// resultExactly holds what is read against the chapter's words, and tells whether something was.
func resultExactly(t *testing.T, s string) bool {
	t.Helper()
	want, ok := resultParsed(s)
	ok = ok && resultModel(want) == s && want.E <= 63 && (want.E > 0 || lat.Right(want.V))
	got, e := trace.Read(s)
	switch {
	case !ok:
		noResult(t, "by the words", s)
	case e != fine || !sameModel(got, want):
		t.Errorf("Read(%s): %s %d, not %s", bytesOf(s), brief(got), e, brief(want))
	}
	return ok
}

// traceExactly is likewise of a trace.
func traceExactly(t *testing.T, s string) bool {
	t.Helper()
	want, ok := traceParsed(s)
	ok = ok && traceModel(want) == s && len(want) <= 256
	seen := map[string]bool{}
	for _, d := range want {
		ok = ok && simple(d.Name) && !seen[d.Name] && d.R.E <= 63 && (d.R.E > 0 || lat.Right(d.R.V))
		seen[d.Name] = true
	}
	got, e := trace.Decode(s)
	switch {
	case !ok:
		noTrace(t, "by the words", s)
	case e != fine || !sameDeps(got, want):
		t.Errorf("Decode(%s): %s %d, not %s", bytesOf(s), brief(got), e, brief(want))
	}
	return ok
}

// 21.2: bytes of which one is turned into another one are read just if they are the bytes of what is right, and then as that.
func TestTurned(t *testing.T) {
	results, traces := 0, 0
	turn := func(s string, exactly func(t *testing.T, s string) bool, read *int) {
		for i := range len(s) {
			for b := range 256 {
				if exactly(t, s[:i]+string([]byte{byte(b)})+s[i+1:]) {
					*read++
				}
			}
		}
	}
	for _, r := range some() {
		if s := resultModel(r); len(s) < 40 {
			turn(s, resultExactly, &results)
		}
	}
	for i := range 100 {
		if s := traceModel(rolledDeps(new(dice(i)))); len(s) < 150 {
			turn(s, traceExactly, &traces)
		}
	}
	if results < 5000 || traces < 5000 {
		t.Errorf("only %d results and %d traces were read", results, traces)
	}
}

// 21.2: all bytes of at most two, and all of up to six out of those that say something.
func TestAllShort(t *testing.T) {
	results, traces := 0, 0
	count := func(s string) {
		if resultExactly(t, s) {
			results++
		}
		if traceExactly(t, s) {
			traces++
		}
	}
	count("")
	for a := range 256 {
		count(string([]byte{byte(a)}))
		for b := range 256 {
			count(string([]byte{byte(a), byte(b)}))
		}
	}
	if results != 63 || traces != 1 {
		t.Errorf("%d results and %d traces of at most two bytes were read, not the 63 errors, and no trace", results, traces)
	}
	var longer func(s string, n int)
	longer = func(s string, n int) {
		if count(s); n > 0 {
			for _, b := range []byte{0, 1, 2, 3, 4, 8, 16, 24, 40, 97, 98, 128} {
				longer(s+string([]byte{b}), n-1)
			}
		}
	}
	longer("\x00", 5)
	longer("\x01", 5)
	longer("\x01\x01a", 4)
	longer("\x02\x01a\x01\x18", 4)
	longer("\x02\x01a\x01\x18\x01", 4)
	if results < 100 || traces < 70 {
		t.Errorf("only %d results and %d traces were read", results, traces)
	}
}

// R1: what is very great, deep, or told to be so ends, and is none.
func TestEnds(t *testing.T) {
	deep := strings.Repeat("\x01\x20\x01\x01a", 1<<14)
	for _, s := range []string{
		strings.Repeat("\x00", 1<<20), strings.Repeat("\x01", 1<<20), strings.Repeat("\xff", 1<<20), strings.Repeat("\x80", 1<<20), strings.Repeat("\x18", 1<<20), strings.Repeat("a", 1<<20), "\x00" + counted(deep), "\x00" + counted(deep+"\x01\x28"),
		digits(math.MaxUint64), digits(1 << 62), "\x00" + digits(math.MaxUint64), "\x00" + digits(1<<63), "\x00" + digits(1<<62) + "\x01\x28", "\x00" + counted(digits(1<<40)+"\x28"), "\x00" + counted("\x01\x18"+counted(strings.Repeat("x", 1<<20))), "\x00" + counted(strings.Repeat("\x00", 1<<20)),
	} {
		noResult(t, "great", s)
		noTrace(t, "great, in a trace", "\x01\x01a"+counted(s))
		noTrace(t, "great", s)
	}
	for _, s := range []string{digits(1<<40) + "\x01a\x01\x18", digits(1<<20) + strings.Repeat("\x01a\x01\x18", 1<<18), "\x01" + counted(strings.Repeat("a", 1<<20)) + "\x01\x18", "\x01\x01a" + counted(strings.Repeat("\x18", 1<<20)), "\x01\x01a" + digits(1<<63) + "\x18"} {
		noTrace(t, "great", s)
	}
	huge := api.Result{V: nested(1<<14, yes)}
	if s, e := trace.Write(huge); s != "" || e != refuse || trace.Good(huge) || !trace.Same(huge, api.Result{V: nested(1<<14, yes)}) {
		t.Errorf("of what is deep: %s %d", bytesOf(s), e)
	}
	if l := deps(1<<16, huge); trace.Right(l) || trace.Right(l[:1]) {
		t.Error("what is great and deep is right")
	}
}

// R5: what is handed in is not changed, what lies behind a list's length is not looked at, and what is read shares no list with what was read before.
func TestMemory(t *testing.T) {
	terms := []api.Term{no, yes, {Kind: 9}}
	behind := []api.Dep{dep("b", came(terms[:2]...)), dep("a", wrong(24)), dep("a", wrong(99))}
	l := behind[:2]
	l[0].R.V.Terms = terms[:2]
	s, e := trace.Encode(l)
	if s != "\x02\x01b\x09\x00\x07\x02\x08\x00\x00\x08\x02\x02\x01a\x01\x18" || e != fine || !trace.Right(l) || !trace.Equal(l, l) || !trace.Equal(l, behind[:2:2]) || trace.Right(behind) || trace.Equal(l, behind) {
		t.Errorf("Encode: %s %d", bytesOf(s), e)
	}
	if behind[0].Name != "b" || behind[1].Name != "a" || behind[2].R.E != 99 || !sameTerms(terms[0], no) || !sameTerms(terms[1], yes) || terms[2].Kind != 9 {
		t.Errorf("what was handed in is %v now", behind)
	}
	want := []api.Dep{dep("b", came(closed(field("a", yes)))), dep("a", came(yes))}
	s = traceModel(want)
	a, _ := trace.Decode(s)
	b, _ := trace.Decode(s)
	a[0].Name = "x"
	a[0].R.V.Terms[0].Fields[0].V.Terms[0] = all
	a[0].R.V.Terms[0].Fields[0].Name = "y"
	if !sameDeps(b, want) || !sameModel(a[1].R, want[1].R) {
		t.Errorf("Decode: %v and %v share", a, b)
	}
	s = resultModel(want[0].R)
	r, _ := trace.Read(s)
	r.V.Terms[0].Fields[0].V.Terms[0] = all
	if again, e := trace.Read(s); e != fine || !sameModel(again, want[0].R) {
		t.Errorf("Read: %v", again)
	}
}
