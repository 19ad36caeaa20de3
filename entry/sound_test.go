package entry_test

import (
	"math"
	"slices"
	"strconv"
	"strings"
	"testing"

	"treillage/api"
	"treillage/entry"
	"treillage/eval"
	"treillage/key"
	"treillage/scratch"
)

// of is the entry of a node that has one.
func of(t *testing.T, n api.Node, fuel int, r eval.Reader) api.Entry {
	t.Helper()
	x, e := entry.Of(n, fuel, r)
	if e != fine {
		t.Fatalf("Of(%s, %d): %d", brief(n), fuel, e)
	}
	return x
}

// keyOf is the key of a node and some fuel that have one.
func keyOf(t *testing.T, n api.Node, fuel int) string {
	t.Helper()
	s, e := key.Of(n, fuel)
	if e != fine {
		t.Fatalf("the key of %s: %d", brief(n), e)
	}
	return s
}

// sound fails, if an entry is not sound.
func sound(t *testing.T, x api.Entry) {
	t.Helper()
	if !entry.Right(x) || !entry.Sound(x) {
		t.Errorf("not sound: %s", brief(x))
	}
}

// unsound fails, if an entry is sound.
func unsound(t *testing.T, what string, x api.Entry) {
	t.Helper()
	if entry.Sound(x) {
		t.Errorf("%s: sound: %s", what, brief(x))
	}
}

// 25.2: the chapter's example, and others by hand: what was read in the order in which it was, each name once, errors, too.
func TestOf(t *testing.T) {
	for _, c := range []struct {
		defs []string
		fuel int
		want api.Entry
	}{
		{[]string{"b + 1"}, 9, one()},
		{[]string{"b + 1"}, 3, api.Entry{Key: "a\n3\nb + 1\n", Deps: one().Deps, R: came(number(5)), Steps: 3}},
		{[]string{"b + 1"}, 2, api.Entry{Key: "a\n2\nb + 1\n", Deps: one().Deps, R: wrong(26), Steps: 2}},
		{[]string{"b + 1"}, 1, api.Entry{Key: "a\n1\nb + 1\n", R: wrong(26), Steps: 1}},
		{[]string{"7"}, 1, api.Entry{Key: "a\n1\n7\n", R: came(number(7)), Steps: 1}},
		{[]string{"s + b"}, 9, api.Entry{Key: "a\n9\ns + b\n", Deps: []api.Dep{dep("s", came(text("x"))), dep("b", came(number(4)))}, R: wrong(27), Steps: 3}},
		{[]string{"many", "b - b + many - many + 1"}, 99, api.Entry{Key: "a\n99\nmany\nb - b + many - many + 1\n", Deps: []api.Dep{dep("many", came(number(1), number(3))), dep("b", came(number(4)))}, R: wrong(28), Steps: 8}},
		{[]string{"lost | 1"}, 9, api.Entry{Key: "a\n9\nlost | 1\n", Deps: []api.Dep{dep("lost", wrong(23))}, R: wrong(23), Steps: 2}},
		{[]string{"n.n", "bad"}, mostSteps, api.Entry{Key: "a\n1048576\nn.n\nbad\n", Deps: []api.Dep{dep("n", came(closed(field("n", number(7))))), dep("bad", wrong(24))}, R: wrong(24), Steps: 2}},
		{[]string{"none | b"}, 9, api.Entry{Key: "a\n9\nnone | b\n", Deps: []api.Dep{dep("b", came(number(4)))}, R: came(number(4)), Steps: 3}},
	} {
		for _, res := range []bool{false, true} {
			n := node(t, "a", c.defs...)
			n.Res = res
			x := of(t, n, c.fuel, world())
			if !sameEntry(x, c.want) {
				t.Errorf("Of(%v, %d): %s, not %s", c.defs, c.fuel, brief(x), brief(c.want))
			}
			sound(t, x)
			both(t, x, model(x))
		}
	}
}

// 25.2: a node that has no key, a fuel out of its bounds, a reader that is nil: nothing is read.
func TestOfRefused(t *testing.T) {
	r := asked(func(s string) api.Result {
		t.Errorf("%s is read", s)
		return came()
	})
	b := definitions(t, "b")
	for _, n := range []api.Node{
		{}, {Name: "a"}, {Defs: b}, {Name: "A", Defs: b}, {Name: "int", Defs: b}, {Name: "a.b", Defs: b}, {Name: "a", Defs: []api.Expr{{}}}, {Name: "a", Defs: []api.Expr{b[0], {Op: 16}}}, {Name: "a", Defs: []api.Expr{b[0], {Op: 9, Path: []string{"int"}}}}, {Name: strings.Repeat("a", 17), Defs: b},
	} {
		for _, n.Res = range []bool{false, true} {
			unmade(t, n, 9, r)
			unmade(t, n, 0, nil)
		}
	}
	n := node(t, "a", "b")
	for _, fuel := range []int{0, -1, mostSteps + 1, math.MinInt, math.MaxInt} {
		unmade(t, n, fuel, r)
	}
	unmade(t, n, 9, nil)
}

// unmade fails, if a node has an entry.
func unmade(t *testing.T, n api.Node, fuel int, r eval.Reader) {
	t.Helper()
	if x, e := entry.Of(n, fuel, r); !zero(x) || e != refuse {
		t.Errorf("Of(%s, %d): %s %d", brief(n), fuel, brief(x), e)
	}
}

// 25.2: readers that answer what is not right, or nothing; what they answered counts as an error.
func TestReaders(t *testing.T) {
	n := node(t, "a", "b + 1")
	for _, r := range badResults() {
		x := of(t, n, 9, asked(func(string) api.Result { return r }))
		want := r.E
		if want == fine {
			want = refuse
		}
		if !sameEntry(x, api.Entry{Key: one().Key, Deps: []api.Dep{dep("b", wrong(want))}, R: wrong(want), Steps: 2}) {
			t.Errorf("%s: %s", brief(r), brief(x))
		}
		// An error that is none is told all the same.
		if ok := want > 0 && want < 64; entry.Right(x) != ok || entry.Sound(x) != ok {
			t.Errorf("%s: %t %t", brief(x), entry.Right(x), entry.Sound(x))
		}
	}
	x := of(t, n, 9, asked(nil))
	if !sameEntry(x, api.Entry{Key: one().Key, Deps: []api.Dep{dep("b", wrong(1))}, R: wrong(1), Steps: 2}) {
		t.Errorf("a reader that panics: %s", brief(x))
	}
	if x := of(t, n, 9, eval.List(nil)); !sameEntry(x, api.Entry{Key: one().Key, Deps: []api.Dep{dep("b", wrong(23))}, R: wrong(23), Steps: 2}) {
		t.Errorf("a reader of nothing: %s", brief(x))
	}
}

// run reads what some nodes come to, each out of nothing.
type run struct {
	nodes []api.Node
	fuel  int
}

func (r run) Read(s string) api.Result { return scratch.One(r.nodes, r.fuel, s) }

// 25.2: the nodes of a configuration with a ring, asked one by one.
func TestRing(t *testing.T) {
	l := []api.Node{node(t, "a", "b", "any"), node(t, "b", "a + 1"), node(t, "c", "a | 1"), node(t, "d", "e"), node(t, "e", "3")}
	want := []api.Entry{
		{Key: "a\n9\nb\nany\n", Deps: []api.Dep{dep("b", wrong(24))}, R: wrong(24), Steps: 1},
		{Key: "b\n9\na + 1\n", Deps: []api.Dep{dep("a", wrong(24))}, R: wrong(24), Steps: 2},
		{Key: "c\n9\na | 1\n", Deps: []api.Dep{dep("a", wrong(24))}, R: wrong(24), Steps: 2},
		{Key: "d\n9\ne\n", Deps: []api.Dep{dep("e", came(number(3)))}, R: came(number(3)), Steps: 1},
		{Key: "e\n9\n3\n", R: came(number(3)), Steps: 1},
	}
	for i, n := range l {
		x := of(t, n, 9, run{l, 9})
		if !sameEntry(x, want[i]) {
			t.Errorf("%s, not %s", brief(x), brief(want[i]))
		}
		sound(t, x)
	}
}

// 25.2: entries that are not right, as the key is too long, or too much was read, are told all the same, and are not sound.
func TestOfTooMuch(t *testing.T) {
	for n := mostKey - 3; n <= mostKey+3; n++ {
		// Each definition is a text with its two signs and a line feed; the name and the fuel take 8 bytes.
		var l []string
		left := n - 8
		for left > 250 {
			l, left = append(l, `"`+strings.Repeat("x", 197)+`"`), left-200
		}
		l = append(l, `"`+strings.Repeat("x", left-3)+`"`)
		x := of(t, node(t, "a", l...), 10000, world())
		if len(x.Key) != n || x.Steps != len(l) || !sameResult(x.R, came()) {
			t.Fatalf("%d bytes, not %d: %s", len(x.Key), n, brief(x))
		}
		if ok := n <= mostKey; entry.Right(x) != ok || entry.Sound(x) != ok {
			t.Errorf("a key of %d bytes: %t %t", n, entry.Right(x), entry.Sound(x))
		}
	}
	for n := mostDeps - 1; n <= mostDeps+2; n++ {
		var l []string
		for i := range n {
			l = append(l, "n"+strconv.Itoa(i))
		}
		x := of(t, node(t, "a", l...), 10000, asked(func(string) api.Result { return came(number(1)) }))
		if len(x.Deps) != n || x.Steps != n || !sameResult(x.R, came(number(1))) {
			t.Fatalf("%d names: %s", n, brief(x))
		}
		if ok := n <= mostDeps; entry.Right(x) != ok || entry.Sound(x) != ok {
			t.Errorf("%d names: %t %t", n, entry.Right(x), entry.Sound(x))
		}
	}
	// A definition's text that is too long to be read: the key can't be, so it is no sound one's.
	if x := of(t, node(t, "a", wide(4096)), 10000, world()); len(x.Key) != 4096+9 || !entry.Sound(x) {
		t.Errorf("a definition that can just be read: %d %t", len(x.Key), entry.Sound(x))
	}
	longer := node(t, "a", wide(4096))
	longer.Defs[0].Pairs[0].E.Text += "x"
	if x := of(t, longer, 10000, world()); len(x.Key) != 4097+9 || !entry.Right(x) || entry.Sound(x) {
		t.Errorf("a definition that can't be read: %d %t %t", len(x.Key), entry.Right(x), entry.Sound(x))
	}
}

// wide is an expression's text of just so many bytes, some thousands.
func wide(n int) string {
	s := "}"
	for i := range 20 {
		s = "; f" + strconv.Itoa(30-i) + `: "` + strings.Repeat("x", 190) + `"` + s
	}
	begin, end := `{f10: "`, `"`+strings.TrimSuffix(s, "}")+";}"
	return begin + strings.Repeat("x", n-len(begin+end)) + end
}

// 25.2: what is right but not sound.
func TestUnsound(t *testing.T) {
	x := of(t, node(t, "a", "b + n.n", "int | later"), 99, world())
	sound(t, x)
	for what, change := range map[string]func(x *api.Entry){
		"a key that is no node's":         func(x *api.Entry) { x.Key = "a" },
		"one without definitions":         func(x *api.Entry) { x.Key = "a\n99\n" },
		"one with a blank more":           func(x *api.Entry) { x.Key = "a\n99\nb  + n.n\nint | later\n" },
		"one without its end":             func(x *api.Entry) { x.Key = x.Key[:len(x.Key)-1] },
		"one with more behind it":         func(x *api.Entry) { x.Key += "\n" },
		"foreign bytes":                   func(x *api.Entry) { x.Key = "\x00\xff" },
		"no fuel":                         func(x *api.Entry) { x.Key = "a\n0\nb + n.n\nint | later\n" },
		"less fuel":                       func(x *api.Entry) { x.Key = "a\n5\nb + n.n\nint | later\n" },
		"other definitions":               func(x *api.Entry) { x.Key = "a\n99\nb + n.n\nint | b\n" },
		"definitions turned":              func(x *api.Entry) { x.Key = "a\n99\nint | later\nb + n.n\n" },
		"another value":                   func(x *api.Entry) { x.R = came(number(12)) },
		"a value more":                    func(x *api.Entry) { x.R = came(number(11), number(12)) },
		"no value":                        func(x *api.Entry) { x.R = came() },
		"an error":                        func(x *api.Entry) { x.R = wrong(26) },
		"a step less":                     func(x *api.Entry) { x.Steps-- },
		"a step more":                     func(x *api.Entry) { x.Steps++ },
		"no steps":                        func(x *api.Entry) { x.Steps = 0 },
		"the last name less":              func(x *api.Entry) { x.Deps = x.Deps[:2] },
		"the first name less":             func(x *api.Entry) { x.Deps = x.Deps[1:] },
		"no name":                         func(x *api.Entry) { x.Deps = nil },
		"a name more":                     func(x *api.Entry) { x.Deps = append(x.Deps, dep("z", came())) },
		"a name more that is not there":   func(x *api.Entry) { x.Deps = append(x.Deps, dep("z", wrong(23))) },
		"a name more, ahead":              func(x *api.Entry) { x.Deps = append([]api.Dep{dep("z", came())}, x.Deps...) },
		"the names in another order":      func(x *api.Entry) { x.Deps[0], x.Deps[1] = x.Deps[1], x.Deps[0] },
		"another name":                    func(x *api.Entry) { x.Deps[2].Name = "late" },
		"something else read":             func(x *api.Entry) { x.Deps[0].R = came(number(5)) },
		"an error read":                   func(x *api.Entry) { x.Deps[0].R = wrong(24) },
		"a trace that is not right":       func(x *api.Entry) { x.Deps[0].R = wrong(64) },
		"a result that is not right":      func(x *api.Entry) { x.R = wrong(64) },
		"steps that are not right":        func(x *api.Entry) { x.Steps = -1 },
		"a result with a value beside it": func(x *api.Entry) { x.R.E = 1 },
		"no key":                          func(x *api.Entry) { x.Key = "" },
	} {
		unsound(t, what, by(x, change))
	}
	unsound(t, "nothing", api.Entry{})
	// What was read as an error because it was not there may be listed as just that.
	y := of(t, node(t, "a", "lost"), 9, world())
	sound(t, y)
	unsound(t, "an error that was not listed", by(y, func(x *api.Entry) { x.Deps = nil }))
	// What did not tell may be another one.
	z := of(t, node(t, "a", "n.n"), 9, world())
	sound(t, by(z, func(x *api.Entry) { x.Deps[0].R = came(closed(field("m", number(1)), field("n", number(7)))) }))
	for _, x := range append(right()[1:], broken()...) {
		if _, _, e := key.Read(x.Key); e != fine {
			unsound(t, "of no key", x)
		}
	}
}

// names are those that rolled nodes read.
var names = []string{"b", "c", "d", "e", "f"}

// rolledNode is a node whose definitions read some names, what hangs on which being seen by what they come to.
func rolledNode(t *testing.T, d *dice) (api.Node, int) {
	t.Helper()
	parts := append(slices.Clone(names), "1", "2", `"x"`, "int", "any", ">=1 & <=3", "{n: b;}", "b.n", "c.n", "none", "computed", "{n: c; ...}")
	var l []string
	for range 1 + d.roll(3) {
		s := parts[d.roll(len(parts))]
		for range d.roll(4) {
			s = "(" + s + ")" + []string{" & ", " | ", " + ", " - ", " * "}[d.roll(5)] + parts[d.roll(len(parts))]
		}
		l = append(l, s)
	}
	return node(t, "a", l...), []int{1, 2, 3, 5, 9, 100}[d.roll(6)]
}

// rolledWorld is what some of the names come to, errors among it.
func rolledWorld(d *dice) eval.List {
	l := []api.Result{came(number(1)), came(number(2)), came(number(1), number(2)), came(text("x")), came(), came(api.Term{Kind: 5}), came(closed(field("n", number(1)))), came(closed(field("n", number(2)))), wrong(24), wrong(28), came(api.Term{Kind: 2, Hi: 3, Maybe: true})}
	var out eval.List
	for _, s := range names {
		if d.roll(8) > 0 {
			out = append(out, dep(s, l[d.roll(len(l))]))
		}
	}
	return out
}

// 25.2, 25.3: what Of tells is what Node tells, and sound; and another one just if it is the same, or its evaluation tells as much.
func TestSoundRolled(t *testing.T) {
	for i := range 20000 {
		d := new(dice(i))
		n, fuel := rolledNode(t, d)
		w := rolledWorld(d)
		x, out := of(t, n, fuel, w), eval.Node(n.Defs, fuel, w)
		if !sameEntry(x, api.Entry{Key: keyOf(t, n, fuel), Deps: out.Deps, R: out.R, Steps: out.Steps}) {
			t.Fatalf("%s of %s", brief(x), brief(n))
		}
		sound(t, x)
		if s := model(x); len(s) <= mostBytes {
			both(t, x, s)
		}
		y := by(x, func(x *api.Entry) {
			switch d.roll(5) {
			case 0:
				x.Steps += d.roll(3)
			case 1:
				x.R = of(t, n, fuel, rolledWorld(d)).R
			case 2:
				x.Deps = of(t, n, fuel, rolledWorld(d)).Deps
			case 3:
				m, fuel := rolledNode(t, d)
				x.Key = keyOf(t, m, fuel)
			default:
				if l := x.Deps; len(l) > 0 {
					l[d.roll(len(l))].R = came(number(d.roll(3)))
				}
			}
		})
		m, fuel, _ := key.Read(y.Key)
		out = eval.Node(m.Defs, fuel, eval.List(y.Deps))
		if ok := sameEntry(y, api.Entry{Key: y.Key, Deps: out.Deps, R: out.R, Steps: out.Steps}); entry.Sound(y) != ok {
			t.Fatalf("%t of %s", !ok, brief(y))
		}
	}
}

// 25.3: of two sound entries of one key: as long as the traces are the same, they go on with the same name; if one begins the other one, they are the same.
func TestBeginAlike(t *testing.T) {
	whole, parted := 0, 0
	for i := range 20000 {
		d := new(dice(i))
		n, fuel := rolledNode(t, d)
		x, y := of(t, n, fuel, rolledWorld(d)), of(t, n, fuel, rolledWorld(d))
		at := 0
		for at < min(len(x.Deps), len(y.Deps)) && x.Deps[at].Name == y.Deps[at].Name && sameResult(x.Deps[at].R, y.Deps[at].R) {
			at++
		}
		if at == min(len(x.Deps), len(y.Deps)) {
			whole++
			if !entry.Same(x, y) || !entry.Same(y, x) {
				t.Fatalf("%s begins %s", brief(x), brief(y))
			}
			continue
		}
		parted++
		if x.Deps[at].Name != y.Deps[at].Name || entry.Same(x, y) {
			t.Fatalf("%s goes on unlike %s", brief(x), brief(y))
		}
	}
	if whole < 3000 || parted < 3000 {
		t.Errorf("%d and %d", whole, parted)
	}
}

// R5: what is told shares nothing with what was handed in, nor a part of it with another one; what is handed in stays as it was.
func TestShares(t *testing.T) {
	kept := came(closed(field("n", number(7))), closed(field("n", number(8), number(9))))
	r := asked(func(string) api.Result { return kept })
	n := node(t, "a", "b", "c")
	x, y := of(t, n, 9, r), of(t, n, 9, r)
	x.R.V.Terms[0].Fields[0].V.Terms[0].Lo = 0
	x.Deps[0].R.V.Terms[1].Fields[0].Name = "z"
	x.Deps[1].R.V.Terms[0] = number(3)
	if !sameResult(kept, came(closed(field("n", number(7))), closed(field("n", number(8), number(9))))) {
		t.Errorf("what was handed in became %s", brief(kept))
	}
	if !sameResult(y.R, kept) || !sameResult(y.Deps[0].R, kept) || !sameResult(y.Deps[1].R, kept) {
		t.Errorf("became %s", brief(y))
	}
	if !sameResult(x.Deps[0].R, came(kept.V.Terms[0], closed(field("z", number(8), number(9))))) || !sameResult(x.Deps[1].R, came(number(3), kept.V.Terms[1])) {
		t.Errorf("its parts hang together: %s", brief(x))
	}
	before := by(y, func(*api.Entry) {})
	before.R = of(t, n, 9, r).R
	for range 2 {
		entry.Sound(y)
		entry.Right(y)
		entry.Encode(y)
		entry.Same(y, x)
	}
	if !sameEntry(y, before) || !sameEntry(y, of(t, n, 9, r)) {
		t.Errorf("became %s", brief(y))
	}
}
