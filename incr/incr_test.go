package incr_test

import (
	"math"
	"slices"
	"strconv"
	"strings"
	"testing"

	"treillage/api"
	"treillage/disk"
	"treillage/incr"
	"treillage/memo"
)

// 28.1: nodes that are not right, a fuel out of its bounds, a memo that is nil: no run.
func TestRefused(t *testing.T) {
	m := blank(t)
	one := []api.Expr{{Op: api.OpInt, N: 1}}
	many := make([]api.Node, 257)
	for i := range many {
		many[i] = api.Node{Name: "n" + strconv.Itoa(1000+i), Defs: one}
	}
	deep := one[0]
	for range 16 {
		deep = api.Expr{Op: api.OpMeet, Kids: []api.Expr{deep, deep}}
	}
	for what, nodes := range map[string][]api.Node{
		"no name":                  {{Defs: one}},
		"a name that is none":      {{Name: "A", Defs: one}},
		"a word":                   {{Name: "any", Defs: one}},
		"a name that is too long":  {{Name: strings.Repeat("a", 17), Defs: one}},
		"no definitions":           {{Name: "a"}},
		"names that fall":          {{Name: "b", Defs: one}, {Name: "a", Defs: one}},
		"a name twice":             {{Name: "a", Defs: one}, {Name: "a", Defs: one}},
		"no operation":             {{Name: "a", Defs: []api.Expr{{}}}},
		"one that may not be":      {{Name: "a", Defs: one}, {Name: "b", Defs: []api.Expr{one[0], {Op: api.OpRef}}}},
		"one that is too deep":     {{Name: "a", Defs: []api.Expr{deep}}},
		"one more than may be":     many,
		"an operation that is not": {{Name: "a", Defs: []api.Expr{{Op: 16}}}},
	} {
		for _, fuel := range []int{plenty, 1, 0} {
			refused(t, what, nodes, fuel, m)
			refused(t, what, nodes, fuel, nil)
		}
	}
	nodes := config(t, "a: 1;")
	for _, fuel := range []int{0, -1, mostFuel + 1, math.MinInt, math.MaxInt} {
		refused(t, "a fuel of "+strconv.Itoa(fuel), nodes, fuel, m)
		refused(t, "a fuel of "+strconv.Itoa(fuel), nil, fuel, m)
	}
	refused(t, "no memo", nodes, plenty, nil)
	has(t, m, 0)
	// Just within the bounds.
	tells(t, begun(t, nil, plenty, m), "", "", 0)
	all(t, begun(t, []api.Node{}, 1, m), "a", "")
	all(t, begun(t, nodes, 1, m), "a", "a=1")
	all(t, begun(t, nodes, mostFuel, m), "a", "a=1")
	w := begun(t, many[:256], plenty, m)
	reads(t, w, "n1255", "1")
	reads(t, w, "n1256", "!23")
}

// 28.1, R8: a run that nobody made.
func TestNil(t *testing.T) {
	for _, w := range []*incr.Run{nil, {}} {
		for range 2 {
			reads(t, w, "a", "!1")
			reads(t, w, "", "!1")
			all(t, w, "", "")
			all(t, w, "a b", "")
			if got := told(w); got != "; ; 0; 1" {
				t.Errorf("told is %s", got)
			}
		}
	}
}

// 28.1, 28.2: what names are read as, and what is told of it, in a run with a memo without entries and in one behind it.
func TestRead(t *testing.T) {
	for _, c := range []struct {
		text  string
		fuel  int
		names string // what is read, in order
		want  string // what is settled then
		evals string
		steps int
	}{
		{"", plenty, "", "", "", 0},
		{"", plenty, "a", "", "", 0},
		{"a: 1;", plenty, "", "", "", 0},
		{"a: 1;", plenty, "a", "a=1", "a", 1},
		{"a: 1; b: 2;", plenty, "b", "b=2", "b", 1},
		{"a: 1; b: 2;", plenty, "b a b a", "a=1 b=2", "b a", 2},
		{"a: 1; b: 2;", plenty, "c b d", "b=2", "b", 1},
		{"a: b + 1; b: c + 1; c: 1; d: 7;", plenty, "a", "a=3 b=2 c=1", "c b a", 7},
		{"a: b + 1; b: c + 1; c: 1; d: 7;", plenty, "b d a", "a=3 b=2 c=1 d=7", "c b d a", 8},
		{"a: hub + 1; b: hub + 2; c: hub + a; hub: 1 + 2 + 3;", plenty, "c b", "a=7 b=8 c=13 hub=6", "hub a c b", 14},
		{"a: lost;", plenty, "a lost", "a=!23", "a", 1},
		{"a: b.c; b: {c: lost;};", plenty, "a", "a=!23 b=!23", "b a", 3},
		{"a: b + c; b: true + 1; c: 1;", plenty, "a", "a=!27 b=!27", "b a", 5},
		{"a: b + c; b: true + 1; c: 1;", plenty, "a c", "a=!27 b=!27 c=1", "b a c", 6},
		{"a: b; a: int; b: none;", plenty, "a", "a=none b=none", "b a", 3},
		// Rings.
		{"a: a;", plenty, "a", "a=!24", "a", 1},
		{"a: b; b: a;", plenty, "a", "a=!24 b=!24", "b a", 2},
		{"a: b; b: a;", plenty, "b a", "a=!24 b=!24", "a b", 2},
		{"a: 1 | b; b: 2 & c; c: a + 1; d: b; e: f; f: 1;", plenty, "d e", "a=!24 b=!24 c=!24 d=!24 e=1 f=1", "a c b d f e", 11},
		// Fuel is each node's own, and may be used up within a run.
		{"a: b + 1; b: c + 1; c: 1;", 3, "a", "a=3 b=2 c=1", "c b a", 7},
		{"a: b + 1; b: c + 1; c: 1;", 2, "a", "a=!26 b=!26 c=1", "c b a", 5},
		{"a: b + 1; b: c + 1; c: 1;", 1, "a", "a=!26", "a", 1},
		{"a: b; b: c; c: 1;", 1, "a", "a=1 b=1 c=1", "c b a", 3},
		{"a: b + c; b: 1 + 1 + 1; c: 2;", 3, "a c", "a=!26 b=!26 c=2", "b a c", 6},
		{"a: b; b: a + a;", 1, "a", "a=!26 b=!26", "b a", 2},
		{"a: b + 1; b: c + 1; c: 1;", mostFuel, "a", "a=3 b=2 c=1", "c b a", 7},
	} {
		m, nodes := blank(t), config(t, c.text)
		w := begun(t, nodes, c.fuel, m)
		tells(t, w, "", "", 0)
		for range 2 {
			for _, s := range strings.Fields(c.names) {
				w.Read(s)
			}
			tells(t, w, c.evals, "", c.steps)
			all(t, w, "", c.want)
			all(t, w, c.names, c.want)
		}
		has(t, m, len(strings.Fields(c.evals)))
		for _, l := range []string{c.names, c.names + " " + c.names} {
			w := begun(t, nodes, c.fuel, m)
			all(t, w, l, c.want)
			tells(t, w, "", strings.Join(w.Hits(), " "), 0)
			if h := w.Hits(); len(h) != len(strings.Fields(c.evals)) {
				t.Errorf("%s: only %q were hits", c.text, h)
			}
		}
		has(t, m, len(strings.Fields(c.evals)))
	}
}

// 28.1: names that are no node's, words and foreign bytes among them, change nothing.
func TestNoNode(t *testing.T) {
	m := blank(t)
	w := begun(t, config(t, "a: 1; b: lost;"), plenty, m)
	for range 2 {
		for _, s := range []string{"", "c", "lost", "aa", "A", "int", "a.b", "a ", "\xff", "\x00", strings.Repeat("a", 100)} {
			reads(t, w, s, "!23")
			if l := w.All(s); len(l) != 0 {
				t.Errorf("%q is settled: %s", s, saidAll(l))
			}
		}
	}
	tells(t, w, "", "", 0)
	has(t, m, 0)
	all(t, w, "lost a lost", "a=1")
	all(t, w, "lost b", "a=1 b=!23")
	tells(t, w, "a b", "", 2)
}

// 28.1: a ring, read from each of its names, and from such as hang on it, and again; in one run, and in one behind it.
func TestRing(t *testing.T) {
	const l = "a: b; b: 1 | c; c: a + b; d: c; e: e; f: g & a; g: 1; h: f | g;"
	want := map[string]string{"a": "!24", "b": "!24", "c": "!24", "d": "!24", "e": "!24", "f": "!24", "g": "1", "h": "!24"}
	nodes := config(t, l)
	m := blank(t)
	for from := range want {
		own := blank(t)
		for range 3 {
			w := begun(t, nodes, plenty, own)
			for range 2 {
				reads(t, w, from, want[from])
				for s, r := range want {
					reads(t, w, s, r)
				}
			}
			if n := len(w.Evals()) + len(w.Hits()); n != len(want) {
				t.Errorf("from %s: %d are settled", from, n)
			}
			has(t, own, len(want))
		}
		// One memo that many runs share, each of which begins elsewhere.
		w := begun(t, nodes, plenty, m)
		reads(t, w, from, want[from])
		for s, r := range want {
			reads(t, w, s, r)
		}
		has(t, m, len(want))
	}
	w := begun(t, config(t, "a: b; b: 1 | c; c: a + b; d: c; e: 2; f: g & a; g: 1; h: f | g;"), plenty, m)
	all(t, w, "e b d h", "a=!24 b=!24 c=!24 d=!24 e=2 f=!24 g=1 h=!24")
	tells(t, w, "e", "a c b d g f h", 1)
	// The ring is opened: what was read in it comes to something else.
	w = begun(t, config(t, "a: b; b: 1 | c; c: 3; d: c; e: 2; f: g & a; g: 1; h: f | g;"), plenty, m)
	all(t, w, "a d h", "a=1|3 b=1|3 c=3 d=3 f=1 g=1 h=1")
	tells(t, w, "c b a d f h", "g", 12)
	// And closed again: all is as it was.
	w = begun(t, nodes, plenty, m)
	all(t, w, "h d a", "a=!24 b=!24 c=!24 d=!24 f=!24 g=1 h=!24")
	tells(t, w, "", "g c b a f h d", 0)
}

// 28.1: a change of one definition: what comes to the same as before is not evaluated, nor what read nothing else.
func TestChange(t *testing.T) {
	m := blank(t)
	for _, c := range []struct{ text, names, want, evals, hits string }{
		// The document's examples.
		{"a: b + 1; b: 1 & int;", "a", "a=2 b=1", "b a", ""},
		{"a: b + 1; b: 1;", "a", "a=2 b=1", "b", "a"},
		{"size: 2 + 1; x: size; y: x;", "y", "size=3 x=3 y=3", "size x y", ""},
		{"size: 3; x: size; y: x;", "y", "size=3 x=3 y=3", "size", "x y"},
		// Back to what was there once.
		{"a: b + 1; b: 1 & int;", "a b", "a=2 b=1", "", "b a"},
		{"a: b + 1; b: 2;", "a", "a=3 b=2", "b a", ""},
		{"a: b + 1; b: 1;", "a", "a=2 b=1", "", "b a"},
		{"a: b + 1; b: 2;", "a", "a=3 b=2", "", "b a"},
		// A name that is there no more, and that is there again.
		{"a: b + 1;", "a", "a=!23", "a", ""},
		{"a: b + 1; b: 1;", "a", "a=2 b=1", "", "b a"},
		{"a: b + 1;", "a", "a=!23", "", "a"},
		// The same definitions of another name, and other definitions of the same name.
		{"c: b + 1; b: 1;", "c", "b=1 c=2", "c", "b"},
		{"a: b + 1; a: int; b: 1;", "a", "a=2 b=1", "a", "b"},
		{"a: int; a: b + 1; b: 1;", "a", "a=2 b=1", "a", "b"},
		// Whether one is a resource, and how its definition is written, changes nothing.
		{"resource a: (b)+1; resource b: 1;", "a", "a=2 b=1", "", "b a"},
		// An error may become another one, or the same out of something else.
		{"x: p; y: x; p: lost;", "y", "p=!23 x=!23 y=!23", "p x y", ""},
		{"x: p; y: x; p: p;", "y", "p=!24 x=!24 y=!24", "p x y", ""},
		{"x: p; y: x; p: q; q: p;", "y", "p=!24 q=!24 x=!24 y=!24", "q p", "x y"},
		// What an entry read behind what is not the same is not read, but if the evaluation does.
		{"s: t.f & u; t: {f: 1;}; u: 1;", "s", "s=1 t=(4 0 0 \"\" false false false f:1) u=1", "t u s", ""},
		{"s: t.f & u; t: 1; u: 1;", "s", "s=!27 t=1", "t s", ""},
		{"s: t.f & u; t: {f: 1; g: 2;}; u: 1;", "s", "s=1 t=(4 0 0 \"\" false false false f:1 g:2) u=1", "t s", "u"},
	} {
		w := begun(t, config(t, c.text), plenty, m)
		all(t, w, c.names, c.want)
		tells(t, w, c.evals, c.hits, w.Steps())
	}
}

// tagged is an entry of a key that read something, told as a text, and came to a number that tells it from others, whatever an evaluation would come to.
func tagged(k, deps string, n int) api.Entry {
	x := api.Entry{Key: k, R: came(number(n)), Steps: 77}
	for _, s := range strings.Fields(deps) {
		name, r, ok := strings.Cut(s, "=")
		if !ok {
			continue // a sign for nothing
		}
		if e, ok := strings.CutPrefix(r, "!"); ok {
			n, _ := strconv.Atoi(e)
			x.Deps = append(x.Deps, dep(name, wrong(api.Errno(n))))
			continue
		}
		n, _ := strconv.Atoi(r)
		x.Deps = append(x.Deps, dep(name, came(number(n))))
	}
	return x
}

// 28.1: entries of one key, of which none, the first one, the last one, one in the middle, several are true still; and what is read to find out.
func TestEntries(t *testing.T) {
	nodes := config(t, "a: b + c + d; b: 1; c: 2; d: 3; e: f; f: lost;")
	k := keyOf(t, nodes, plenty, "a")
	for _, c := range []struct {
		entries string // what they read, in the order in which they were put; they come to 100 and more
		want    string // what a is read as
		evals   string
		hits    string
	}{
		{"", "6", "b c d a", ""},
		// None: up to the last name, at the first one, at one between.
		{"b=1 c=2 d=4", "6", "b c d a", ""},
		{"b=1 c=2 d=4; b=1 c=2 d=5; b=1 c=2 d=6", "6", "b c d a", ""},
		{"b=2 c=2 d=3", "6", "b c d a", ""},
		{"b=1 c=3 d=3", "6", "b c d a", ""},
		{"d=9 b=1", "6", "d b c a", ""},
		{"c=2 d=9 b=1", "6", "c d b a", ""},
		{"c=2 d=9; d=3 b=9", "6", "d b c a", ""},
		{"e=9 b=1", "6", "f e b c d a", ""},
		{"e=!23 b=9", "6", "f e b c d a", ""},
		{"lost=1 b=1", "6", "b c d a", ""},
		{"a=6", "6", "b c d a", ""},
		{"b=!23", "6", "b c d a", ""},
		// The first one, the last one, one in the middle.
		{"b=1 c=2 d=3; b=1 c=2 d=4; b=1 c=2 d=5", "100", "b c d", "a"},
		{"b=1 c=2 d=4; b=1 c=2 d=5; b=1 c=2 d=3", "102", "b c d", "a"},
		{"b=1 c=2 d=4; b=1 c=2 d=3; b=1 c=2 d=5", "101", "b c d", "a"},
		{"b=1 c=2 d=3; b=2", "100", "b c d", "a"},
		{"b=1 c=2 d=3; c=3", "100", "c b d", "a"},
		{"b=1 c=2 d=3; b=1 c=3; b=1 c=4 d=3", "100", "b c d", "a"},
		// Several: the last one of them; what the others read is not read.
		{"b=1 c=2 d=3; b=1 c=2 d=3 e=!23", "101", "b c d f e", "a"},
		{"b=1 c=2 d=3 e=!23; b=1 c=2 d=3", "101", "b c d", "a"},
		{"b=1 c=2 d=3; b=1", "101", "b", "a"},
		{"b=1; c=2; d=9", "101", "d c", "a"},
		// Such as read nothing, a name that is no node's, what is under way.
		{"b=2; -", "101", "", "a"},
		{"-; b=2", "100", "b", "a"},
		{"lost=!23", "100", "", "a"},
		{"lost=!23 a=!24 e=!23", "100", "f e", "a"},
	} {
		m := blank(t)
		if c.entries != "" {
			for i, s := range strings.Split(c.entries, ";") {
				put(t, m, tagged(k, s, 100+i))
			}
		}
		before := m.Len()
		w := begun(t, nodes, plenty, m)
		reads(t, w, "a", c.want)
		tells(t, w, c.evals, c.hits, w.Steps())
		if want := len(strings.Fields(c.evals)); m.Len() != before+want {
			t.Errorf("%s: %d entries behind %d", c.entries, m.Len(), before)
		}
		reads(t, w, "a", c.want)
		tells(t, w, c.evals, c.hits, w.Steps())
		// The next run finds them all.
		w = begun(t, nodes, plenty, m)
		reads(t, w, "a", c.want)
		if h := w.Hits(); len(w.Evals()) > 0 || w.Steps() > 0 || !slices.Contains(h, "a") {
			t.Errorf("%s: the next one tells %s", c.entries, told(w))
		}
	}
}

// 28.1: an entry counts just for its whole key: the name, the fuel, each definition.
func TestKeys(t *testing.T) {
	m := blank(t)
	nodes := config(t, "a: 1; b: 1; c: 1; c: any;")
	a := keyOf(t, nodes, plenty, "a")
	put(t, m, tagged("b\n9\n1\n", "", 101), tagged(a+"any\n", "", 102), tagged("c\n10000\n1\n", "", 103), tagged("c\n10000\nany\n1\n", "", 104), tagged(a[:len(a)-1], "", 105), tagged(a, "", 106))
	w := begun(t, nodes, plenty, m)
	all(t, w, "a b c", "a=106 b=1 c=1")
	tells(t, w, "b c", "a", 3)
	w = begun(t, nodes, plenty-1, m)
	all(t, w, "a b c", "a=1 b=1 c=1")
	tells(t, w, "a b c", "", 4)
	w = begun(t, nodes, 9, m)
	all(t, w, "a b c", "a=1 b=101 c=1")
	tells(t, w, "a c", "b", 3)
	has(t, m, 6+2+3+2)
}

// 28.1: a hit whose Deps are read on the way, some of them evaluated, some of them hits; the steps are those of the evaluations alone.
func TestOnTheWay(t *testing.T) {
	m := blank(t)
	begun(t, config(t, "a: b + c; b: d + 1; c: e + 1; d: 1; e: 2;"), plenty, m).All("a")
	w := begun(t, config(t, "a: b + c; b: d + 1; c: e + 1; d: 2 - 1; e: 1 + 1;"), plenty, m)
	all(t, w, "", "")
	reads(t, w, "a", "5")
	tells(t, w, "d e", "b c a", 6)
	all(t, w, "", "a=5 b=2 c=3 d=1 e=2")
	w = begun(t, config(t, "a: b + c; b: d + 1; c: e + 1; d: 2 - 1; e: 3;"), plenty, m)
	reads(t, w, "b", "2")
	tells(t, w, "", "d b", 0)
	all(t, w, "", "b=2 d=1")
	reads(t, w, "a", "6")
	tells(t, w, "e c a", "d b", 7)
	all(t, w, "a", "a=6 b=2 c=4 d=1 e=3")
	has(t, m, 5+2+3)
}

// 28.1: what is settled is read once more as it was, whatever the memo has then; and stands in All, asked for or not.
func TestSettled(t *testing.T) {
	m := blank(t)
	nodes := config(t, "a: b + 1; b: 1; c: a;")
	w := begun(t, nodes, plenty, m)
	reads(t, w, "b", "1")
	put(t, m, tagged(keyOf(t, nodes, plenty, "b"), "", 9), tagged(keyOf(t, nodes, plenty, "c"), "a=2", 8))
	reads(t, w, "b", "1")
	reads(t, w, "c", "8")
	tells(t, w, "b a", "c", 4)
	put(t, m, tagged(keyOf(t, nodes, plenty, "c"), "a=2", 7))
	for range 3 {
		reads(t, w, "c", "8")
		all(t, w, "", "a=2 b=1 c=8")
		all(t, w, "b b b", "a=2 b=1 c=8")
		all(t, w, "lost c", "a=2 b=1 c=8")
	}
	tells(t, w, "b a", "c", 4)
	// Two runs over one memo, each settling what the other one kept.
	x, y := begun(t, nodes, plenty, m), begun(t, nodes, plenty, m)
	all(t, x, "b", "b=9")
	all(t, y, "a", "a=10 b=9")
	all(t, x, "a c", "a=10 b=9 c=10")
	all(t, y, "c", "a=10 b=9 c=10")
	tells(t, x, "c", "b a", 1)
	tells(t, y, "a", "b c", 3)
	if e := m.Keep(0); e != fine {
		t.Fatalf("Keep: %d", e)
	}
	all(t, x, "a b c", "a=10 b=9 c=10")
	tells(t, x, "c", "b a", 1)
	all(t, begun(t, nodes, plenty, m), "c", "a=2 b=1 c=2")
}

// 28.2: no Read, hits alone, evaluations alone, and both.
func TestTold(t *testing.T) {
	m := blank(t)
	nodes := config(t, "a: b * 2; b: 2 + 2; c: a + b; d: 5;")
	w := begun(t, nodes, plenty, m)
	tells(t, w, "", "", 0)
	w.All()
	tells(t, w, "", "", 0)
	w.Read("a")
	tells(t, w, "b a", "", 6)
	w = begun(t, nodes, plenty, m)
	w.Read("b")
	tells(t, w, "", "b", 0)
	w.Read("a")
	tells(t, w, "", "b a", 0)
	w.Read("c")
	tells(t, w, "c", "b a", 3)
	w.All("a", "d", "b")
	tells(t, w, "c d", "b a", 4)
	w = begun(t, nodes, plenty, m)
	w.All("d", "c")
	tells(t, w, "", "d b a c", 0)
	// The memo is written by nothing but what is put: it is not synced, nor written anew.
	d := disk.New()
	m = onDisk(t, d)
	n := d.Ops()
	w = begun(t, nodes, plenty, m)
	w.All("a", "b", "c")
	if d.Ops() != n+3 || d.Sure("memo") != 0 || m.Len() != 3 {
		t.Errorf("%d operations, %d sure, %d entries", d.Ops()-n, d.Sure("memo"), m.Len())
	}
	begun(t, nodes, plenty, m).All("c")
	if d.Ops() != n+3 {
		t.Errorf("%d operations", d.Ops()-n)
	}
}

// 28.1, R5: what was handed in is neither changed nor kept, and what was handed out is memory of its own.
func TestShares(t *testing.T) {
	m := blank(t)
	nodes := config(t, "a: {f: b.g | {x: 1;}; g: c & 3;}; b: {g: 1 | {x: 2;};}; c: int; d: a.f.x; e: b | c; f: {x: {y: {z: e;};};};")
	was := saidNodes(nodes)
	for range 3 {
		w := begun(t, nodes, plenty, m)
		w.All("a", "b", "c", "d", "e", "f")
		if saidNodes(nodes) != was {
			t.Fatal("the nodes are others")
		}
	}
	want := saidAll(begun(t, nodes, plenty, blank(t)).All("a", "b", "c", "d", "e", "f"))
	kept := saidEntries(m.All())
	for range 2 {
		own := config(t, "a: {f: b.g | {x: 1;}; g: c & 3;}; b: {g: 1 | {x: 2;};}; c: int; d: a.f.x; e: b | c; f: {x: {y: {z: e;};};};")
		w, v := begun(t, own, plenty, m), begun(t, own, plenty, blank(t))
		spoilNodes(own)
		for _, w := range []*incr.Run{w, v} {
			for _, s := range []string{"d", "f", "b", "e"} {
				spoil(w.Read(s).V)
				spoil(w.Read(s).V)
			}
			l := []string{"a", "b", "c", "d", "e", "f"}
			out := w.All(l...)
			if got := saidAll(out); got != want {
				t.Errorf("settled is %s, not %s", got, want)
			}
			l[0], l[5] = "z", "z"
			for i := range out {
				spoil(out[i].R.V)
				out[i].Name = "z"
			}
			evals, hits := w.Evals(), w.Hits()
			before := told(w)
			for _, l := range [][]string{evals, hits} {
				for i := range l {
					l[i] = "z"
				}
			}
			if got := saidAll(w.All()); got != want || told(w) != before {
				t.Errorf("settled is %s, not %s", got, want)
			}
		}
		if got := saidEntries(m.All()); got != kept {
			t.Errorf("the memo has\n%s, not\n%s", got, kept)
		}
	}
	// What was handed out stays as it was while the run goes on.
	w := begun(t, nodes, plenty, blank(t))
	w.Read("c")
	evals, one, out := w.Evals(), w.Read("c"), w.All()
	w.Read("f")
	w.All("a")
	if strings.Join(evals, " ") != "c" || saidAll(out) != "c="+said(one) {
		t.Errorf("%q, %s, %s", evals, said(one), saidAll(out))
	}
	// No two results of one answer share any.
	out = begun(t, config(t, "a: b; b: c; c: {f: {g: 1;};};"), plenty, blank(t)).All("a")
	spoil(out[0].R.V)
	if said(out[1].R) != said(out[2].R) || said(out[0].R) == said(out[1].R) {
		t.Errorf("%s", saidAll(out))
	}
}

// spoil changes all that a value has.
func spoil(v api.Value) {
	for i, t := range v.Terms {
		for j, f := range t.Fields {
			spoil(f.V)
			t.Fields[j].Name = "spoilt"
		}
		v.Terms[i] = api.Term{Kind: 9, Lo: 9, Text: "spoilt"}
	}
}

// spoilNodes changes all that nodes have.
func spoilNodes(nodes []api.Node) {
	for i, n := range nodes {
		spoilExprs(n.Defs)
		nodes[i] = api.Node{Name: "spoilt"}
	}
}

// spoilExprs changes all that expressions have.
func spoilExprs(l []api.Expr) {
	for i, e := range l {
		spoilExprs(e.Kids)
		for j, p := range e.Pairs {
			one := []api.Expr{p.E}
			spoilExprs(one)
			e.Pairs[j] = api.Pair{Name: "spoilt", E: one[0]}
		}
		for j := range e.Path {
			e.Path[j] = "spoilt"
		}
		l[i] = api.Expr{Op: api.OpInt, N: 666}
	}
}

// 28.1: what lies behind a list's length in its memory is not looked at.
func TestBehindTheLength(t *testing.T) {
	nodes := config(t, "a: 1; b: 2; c: a;")
	nodes[0].Defs = append(nodes[0].Defs, api.Expr{})[:1]
	w := begun(t, nodes[:2], plenty, blank(t))
	all(t, w, "a b c", "a=1 b=2")
	l := []string{"b", "a"}
	w = begun(t, nodes, plenty, blank(t))
	if got := saidAll(w.All(l[:1]...)); got != "b=2" || !slices.Equal(l, []string{"b", "a"}) {
		t.Errorf("settled is %s", got)
	}
}

// R1: a memo that nobody made.
func TestNoMemo(t *testing.T) {
	w, e := incr.New(config(t, "a: 1; b: a;"), plenty, &memo.Memo{})
	if (w == nil) != (e != fine) {
		t.Errorf("New: %d", e)
	}
	for range 2 {
		w.Read("a")
		w.All("b", "lost")
		told(w)
	}
}
