package entry_test

import (
	"fmt"
	"math"
	"slices"
	"strconv"
	"strings"
	"testing"

	"treillage/api"
	"treillage/eval"
	"treillage/parse"
	"treillage/trace"
)

// OK and the errors of the chapter by their numbers.
const (
	fine   = 0
	refuse = 1
	shape  = 2
	long   = 4
)

const (
	mostKey   = 32768   // how many bytes a key may have
	mostSteps = 1048576 // how many steps there may be
	mostBytes = 65536   // how many bytes an entry may have
	mostDeps  = 256     // how many names may have been read
)

// value, number, text, field, closed, came, wrong and dep are short for what entries are made of; kinds and errors are written as numbers.
func value(l ...api.Term) api.Value              { return api.Value{Terms: l} }
func number(n int) api.Term                      { return api.Term{Kind: 2, Lo: n, Hi: n} }
func text(s string) api.Term                     { return api.Term{Kind: 3, Text: s} }
func field(name string, l ...api.Term) api.Field { return api.Field{Name: name, V: value(l...)} }
func closed(l ...api.Field) api.Term             { return api.Term{Kind: 4, Fields: l} }
func came(l ...api.Term) api.Result              { return api.Result{V: value(l...)} }
func wrong(e api.Errno, l ...api.Term) api.Result {
	return api.Result{E: e, V: value(l...)}
}
func dep(name string, r api.Result) api.Dep { return api.Dep{Name: name, R: r} }

// one is the chapter's example: a, defined as b + 1, with so much fuel, reading 4.
func one() api.Entry {
	return api.Entry{Key: "a\n9\nb + 1\n", Deps: []api.Dep{dep("b", came(number(4)))}, R: came(number(5)), Steps: 3}
}

// two is an entry that is right, and has more of each kind.
func two() api.Entry {
	return api.Entry{Key: "k", Deps: []api.Dep{dep("b", came(number(4), text("x"))), dep("a", wrong(24)), dep("c", came(closed(field("n", number(300)))))}, R: came(), Steps: 200}
}

// by is an entry, changed in one way.
func by(x api.Entry, change func(x *api.Entry)) api.Entry {
	x.Deps = slices.Clone(x.Deps)
	change(&x)
	return x
}

// deps are n results with names that are all unlike, the greatest first.
func deps(n int, r api.Result) []api.Dep {
	var l []api.Dep
	for i := range n {
		l = append(l, dep("n"+strconv.Itoa(1000+n-i), r))
	}
	return l
}

// nested is a value within n structs.
func nested(n int) api.Value {
	v := value(number(1))
	for range n {
		v = value(closed(api.Field{Name: "a", V: v}))
	}
	return v
}

// digits is a number's bytes by the words of chapter 3.
func digits(n int) string {
	s := string([]byte{byte(n % 128)})
	for n /= 128; n > 0; n /= 128 {
		s = string([]byte{byte(n%128) + 128}) + s
	}
	return s
}

// counted is a text's bytes.
func counted(s string) string { return digits(len(s)) + s }

// model is the bytes of a right entry, however many they are, by the chapter's words.
func model(x api.Entry) string {
	deps, e := trace.Encode(x.Deps)
	r, f := trace.Write(x.R)
	if e != fine || f != fine {
		panic("this one is not right")
	}
	return counted(x.Key) + counted(deps) + counted(r) + digits(x.Steps)
}

// counts is the number at the front of a text, in whatever form, and what stands behind it.
func counts(s string) (int, string, bool) {
	n := 0
	for i := range min(len(s), 9) {
		n = n*128 + int(s[i]%128)
		if s[i] < 128 {
			return n, s[i+1:], true
		}
	}
	return 0, "", false
}

// piece is the text at the front of another one, and what stands behind it.
func piece(s string) (string, string, bool) {
	n, s, ok := counts(s)
	if !ok || n > len(s) {
		return "", "", false
	}
	return s[:n], s[n:], true
}

// parsed is the right entry whose bytes these are, by the chapter's words.
func parsed(s string) (x api.Entry, ok bool) {
	key, rest, ok1 := piece(s)
	deps, rest, ok2 := piece(rest)
	r, rest, ok3 := piece(rest)
	steps, rest, ok4 := counts(rest)
	l, e := trace.Decode(deps)
	v, f := trace.Read(r)
	if !ok1 || !ok2 || !ok3 || !ok4 || e != fine || f != fine || rest != "" {
		return api.Entry{}, false
	}
	x = api.Entry{Key: key, Deps: l, R: v, Steps: steps}
	if key == "" || len(key) > mostKey || steps > mostSteps || len(s) > mostBytes || model(x) != s {
		return api.Entry{}, false
	}
	return x, true
}

// sameResult tells whether two results are the same, item by item.
func sameResult(a, b api.Result) bool { return a.E == b.E && sameValue(a.V, b.V) }

// sameValue tells whether two values have the same terms.
func sameValue(a, b api.Value) bool {
	return slices.EqualFunc(a.Terms, b.Terms, func(s, t api.Term) bool {
		same := s.Kind == t.Kind && s.Lo == t.Lo && s.Hi == t.Hi && s.Text == t.Text && s.Any == t.Any && s.Maybe == t.Maybe && s.Open == t.Open
		return same && slices.EqualFunc(s.Fields, t.Fields, func(f, g api.Field) bool { return f.Name == g.Name && sameValue(f.V, g.V) })
	})
}

// sameEntry tells whether two entries are the same, item by item.
func sameEntry(a, b api.Entry) bool {
	same := a.Key == b.Key && a.Steps == b.Steps && sameResult(a.R, b.R)
	return same && slices.EqualFunc(a.Deps, b.Deps, func(x, y api.Dep) bool { return x.Name == y.Name && sameResult(x.R, y.R) })
}

// zero tells whether an entry has nothing in it.
func zero(x api.Entry) bool { return sameEntry(x, api.Entry{}) }

// brief is the begin of what is told, which may be great.
func brief(x any) string {
	s := fmt.Sprintf("%+v", x)
	return s[:min(len(s), 300)]
}

// bytesOf are the begin of a text's bytes.
func bytesOf(s string) string { return brief([]byte(s[:min(len(s), 80)])) }

// definitions are those that some texts say.
func definitions(t *testing.T, l ...string) []api.Expr {
	t.Helper()
	var out []api.Expr
	for _, s := range l {
		x, _, e := parse.Expr(s)
		if e != fine {
			t.Fatalf("%s: %d", brief(s), e)
		}
		out = append(out, x)
	}
	return out
}

// node is a node of some definitions.
func node(t *testing.T, name string, l ...string) api.Node {
	t.Helper()
	return api.Node{Name: name, Defs: definitions(t, l...)}
}

// world is what some names come to.
func world() eval.List {
	return eval.List{dep("b", came(number(4))), dep("s", came(text("x"))), dep("n", came(closed(field("n", number(7))))), dep("bad", wrong(24)), dep("none", came()), dep("many", came(number(1), number(3))), dep("later", came(api.Term{Kind: 2, Lo: 0, Hi: 9, Maybe: true}))}
}

// asked is a reader that is a function.
type asked func(s string) api.Result

func (f asked) Read(s string) api.Result { return f(s) }

// goodResults are right results, one of each kind, and such as are just not too great.
func goodResults() []api.Result {
	l := []api.Result{wrong(1), wrong(33), wrong(63), came(), came(api.Term{Kind: 5}), came(api.Term{Kind: 1, Hi: 1, Maybe: true}), came(number(0), number(9)), came(text(strings.Repeat("\xff", 256))), came(closed()), {V: nested(15)}}
	var row []api.Term
	for i := range 512 {
		row = append(row, number(2*i))
	}
	return append(l, came(row...))
}

// badResults are results that are not right.
func badResults() []api.Result {
	l := []api.Result{wrong(64), wrong(-1), wrong(256), wrong(1<<32 + 1), wrong(math.MinInt), wrong(math.MaxInt), wrong(24, number(1)), wrong(-1, number(1)), wrong(64, number(1)),
		came(api.Term{}), came(api.Term{Kind: 6}), came(number(1<<53 + 1)), came(number(2), number(1)), came(api.Term{Kind: 2, Lo: 1, Hi: 0}), came(text(strings.Repeat("x", 257))), came(closed(field("int", number(1)))), came(closed(field("a"))), came(api.Term{Kind: 5}, api.Term{Kind: 5}), came(api.Term{Kind: 5, Lo: 1}), {V: nested(16)}, {V: nested(5000)}}
	var row []api.Term
	for i := range 513 {
		row = append(row, number(2*i))
	}
	return append(l, came(row...))
}

// badDeps are traces that are not right.
func badDeps() [][]api.Dep {
	four := came(number(4))
	l := [][]api.Dep{deps(mostDeps+1, four), deps(1000, wrong(1)), {dep("b", four), dep("b", four)}, {dep("b", four), dep("c", four), dep("b", wrong(1))}, {dep("a", four), dep("a", four)}}
	for _, s := range []string{"", "A", "1", "_", "a.b", "a\n", "int", "true", strings.Repeat("a", 17), strings.Repeat("a", 1<<16), "\xff"} {
		l = append(l, []api.Dep{dep(s, four)}, []api.Dep{dep("b", four), dep(s, four)})
	}
	for _, r := range badResults() {
		l = append(l, []api.Dep{dep("b", r)}, []api.Dep{dep("b", four), dep("c", r), dep("d", four)})
	}
	return l
}

// right are entries that are right, all unlike, whose bytes are not too many.
func right() []api.Entry {
	l := []api.Entry{one(), two(), {Key: "\x00"}, {Key: "\n", R: wrong(24)}, {Key: strings.Repeat("k", mostKey)}, {Key: strings.Repeat("k", mostKey-1)}, {Key: "k", Steps: 1}, {Key: "k", Steps: 127}, {Key: "k", Steps: 128}, {Key: "k", Steps: mostSteps}, {Key: "k", Steps: mostSteps - 1}, {Key: "k", Deps: deps(mostDeps, wrong(1))}, {Key: "k", Deps: deps(mostDeps, came(number(300)))}, {Key: "k", Deps: deps(mostDeps-1, came())}}
	for _, r := range goodResults() {
		l = append(l, by(one(), func(x *api.Entry) { x.R = r }), by(two(), func(x *api.Entry) { x.Deps[1].R = r }), api.Entry{Key: "kk", Deps: []api.Dep{dep("a234567890123456", r)}})
	}
	return l
}

// broken are entries that are not right, each for one thing.
func broken() []api.Entry {
	var l []api.Entry
	for _, x := range []api.Entry{one(), two()} {
		for _, key := range []string{"", strings.Repeat("k", mostKey+1), strings.Repeat("k", 1<<17)} {
			l = append(l, by(x, func(x *api.Entry) { x.Key = key }))
		}
		for _, steps := range []int{-1, mostSteps + 1, math.MinInt, math.MaxInt, 1 << 32, -mostSteps} {
			l = append(l, by(x, func(x *api.Entry) { x.Steps = steps }))
		}
		for _, r := range badResults() {
			l = append(l, by(x, func(x *api.Entry) { x.R = r }))
		}
		for _, d := range badDeps() {
			l = append(l, by(x, func(x *api.Entry) { x.Deps = d }))
		}
	}
	return l
}

// sized is a right entry of just so many bytes, from some 60,000 on.
func sized(t *testing.T, n int) api.Entry {
	t.Helper()
	x := api.Entry{Key: "k", Deps: deps(130, came(text(strings.Repeat("t", 256)))), Steps: 5}
	x.Key = strings.Repeat("k", 1+n-len(model(x))-2)
	if len(model(x)) != n {
		t.Fatalf("%d bytes, not %d", len(model(x)), n)
	}
	return x
}

// dice are numbers that have no order to be seen.
type dice uint32

// roll is a number from 0 up to below n.
func (d *dice) roll(n int) int {
	*d = *d*1664525 + 1013904223
	return int(uint32(*d)>>8) % n
}
