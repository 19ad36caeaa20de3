package graph_test

import (
	"cmp"
	"math"
	"slices"
	"strings"
	"testing"

	"treillage/graph"
)

// drawn is a graph of points and lines that are written one behind the other: a is a point, a>b a line.
func drawn(s string) *graph.Graph[string] {
	g := graph.New[string]()
	for _, w := range strings.Fields(s) {
		if from, to, ok := strings.Cut(w, ">"); ok {
			g.Link(from, to)
		} else {
			g.Add(w)
		}
	}
	return g
}

// written is a graph as drawn reads it: its points, rising, each with its lines, rising.
func written(g *graph.Graph[string]) string {
	var l []string
	for _, k := range g.Points() {
		l = append(l, k)
		for _, to := range g.To(k) {
			l = append(l, k+">"+to)
		}
	}
	return strings.Join(l, " ")
}

// same fails, if a list is not the one that is asked.
func same[K cmp.Ordered](t *testing.T, what string, got []K, want ...K) {
	t.Helper()
	if !slices.Equal(got, want) {
		t.Errorf("%s: %v, not %v", what, got, want)
	}
}

// ordered fails, if the order of a graph, and what is bound in it, are not those that are asked, each with blanks between.
func ordered(t *testing.T, s, order, bound string) {
	t.Helper()
	l, b := drawn(s).Order()
	same(t, "the order of "+s, l, strings.Fields(order)...)
	same(t, "what is bound in "+s, b, strings.Fields(bound)...)
}

// 17.1: graphs of no points, of one, of several, of the same one twice, in whatever order they come.
func TestNew(t *testing.T) {
	for s, want := range map[string]string{"": "", "a": "a", "a a": "a", "a b": "a b", "b a": "a b", "a b a": "a b", "c a b": "a b c", "b b a b a c c": "a b c", "aa a ab b": "a aa ab b"} {
		l := strings.Fields(s)
		g := graph.New(l...)
		added := graph.New[string]()
		for i, k := range l {
			added.Add(k)
			if !added.Has(k) || added.Len() > i+1 {
				t.Errorf("Add(%s), the point %d of %s: %s", k, i, s, written(added))
			}
		}
		for _, g := range []*graph.Graph[string]{g, added} {
			if written(g) != want || g.Len() != len(strings.Fields(want)) {
				t.Errorf("of %s: %s, %d", s, written(g), g.Len())
			}
			for _, k := range l {
				if !g.Has(k) || len(g.To(k)) != 0 {
					t.Errorf("of %s, %s: %v %v", s, k, g.Has(k), g.To(k))
				}
			}
			for _, k := range []string{"", "d", "A", "a ", "abc", "\xff"} {
				if g.Has(k) || len(g.To(k)) != 0 || len(g.Reach(k)) != 0 {
					t.Errorf("of %s, %q: %v %v %v", s, k, g.Has(k), g.To(k), g.Reach(k))
				}
			}
		}
	}
}

// of fails, if a graph of some keys, which rise, does not have them in their order, whatever order they came in; nought is a key that is zero.
func of[K cmp.Ordered](t *testing.T, rising ...K) {
	t.Helper()
	var nought K
	l := slices.Clone(rising)
	slices.Reverse(l)
	g := graph.New(append(l, rising...)...)
	same(t, "Points", g.Points(), rising...)
	if g.Len() != len(rising) || g.Has(nought) != slices.Contains(rising, nought) {
		t.Errorf("of %v: %d points, %v", rising, g.Len(), g.Has(nought))
	}
	for i, k := range l[:len(rising)] {
		for _, to := range l[i:len(rising)] {
			g.Link(k, to)
		}
	}
	for i, k := range rising {
		same(t, "To", g.To(k), rising[:i+1]...)
		same(t, "Reach", g.Reach(k, k), rising[:i+1]...)
		same(t, "Reach, turned", g.Turned().Reach(k), rising[i:]...)
	}
	order, bound := g.Order()
	same(t, "Order", order)
	same(t, "bound", bound, rising...)
}

// kind is a type of its own whose values have an order.
type kind uint8

// 17.1: of texts, of numbers of all kinds, and of types of their own.
func TestKeys(t *testing.T) {
	of(t, "", "\x00", "A", "a", "a b", "aa", "é", "\xff")
	of(t, math.MinInt, -10, -9, -1, 0, 1, 9, 10, math.MaxInt)
	of(t, uint64(0), 1, 1<<63, math.MaxUint64)
	of(t, kind(0), 1, 200, 255)
	of(t, math.Inf(-1), -1.5, 0, math.SmallestNonzeroFloat64, 1e300, math.Inf(1))
	of[int8](t, -128, 127)
	of[string](t)
	g := graph.New(0, math.Copysign(0, -1))
	g.Link(math.Copysign(0, -1), 0)
	if g.Len() != 1 || !g.Has(math.Copysign(0, -1)) || len(g.To(0)) != 1 {
		t.Errorf("noughts, which are equal, are one point: %v", g.Points())
	}
}

// 17.1: a line between points that are new, one of them, both; that is there already; from a point to itself; the other way.
func TestLink(t *testing.T) {
	for s, want := range map[string]string{
		"a>b": "a a>b b", "a a>b": "a a>b b", "b a>b": "a a>b b", "a b a>b": "a a>b b", "b a a>b": "a a>b b", "b>a": "a b b>a",
		"a>b a>b": "a a>b b", "a>b b>a": "a a>b b b>a", "a>a": "a a>a", "a a>a a>a": "a a>a", "a>a a>b a": "a a>a a>b b",
		"a>d a>b a>c": "a a>b a>c a>d b c d", "d>a c>a b>a": "a b b>a c c>a d d>a", "a>b b>c": "a a>b b b>c c", "b>c a>b": "a a>b b b>c c",
		"a>b b a c": "a a>b b c", "a>b a>a b>b b>a": "a a>a a>b b b>a b>b", "a>c b a>b c": "a a>b a>c b c",
	} {
		if got := written(drawn(s)); got != want {
			t.Errorf("%s: %s, not %s", s, got, want)
		}
		if got := written(drawn(want)); got != want {
			t.Errorf("%s: %s", want, got)
		}
	}
	g := drawn("a>b")
	for _, k := range []string{"b", "c", "", "a>b"} {
		if l := g.To(k); len(l) != 0 {
			t.Errorf("To(%q): %v", k, l)
		}
	}
}

// 17.2: what is reached from no point, from one, several, one twice, such as are none; over many lines and round a ring.
func TestReach(t *testing.T) {
	for _, c := range []struct{ graph, from, want string }{
		{"", "", ""}, {"", "a", ""}, {"a", "", ""}, {"a", "a", "a"}, {"a b", "a", "a"}, {"a b", "b a", "a b"}, {"a b", "b a b b", "a b"},
		{"a>b", "a", "a b"}, {"a>b", "b", "b"}, {"a>b", "x", ""}, {"a>b", "x b y", "b"}, {"a>b", "b x a", "a b"}, {"a>a", "a", "a"}, {"a>b", "", ""},
		{"e>d d>c c>b b>a", "e", "a b c d e"}, {"e>d d>c c>b b>a", "c", "a b c"}, {"e>d d>c c>b b>a", "b d", "a b c d"}, {"e>d d>c c>b b>a", "d b", "a b c d"},
		{"b>c c>a a>b", "a", "a b c"}, {"b>c c>a a>b", "c", "a b c"}, {"x>b b>c c>a a>b", "a", "a b c"}, {"b>c c>a a>b c>x", "a", "a b c x"},
		{"a>b a>c b>d c>d d>e", "a", "a b c d e"}, {"a>b a>c b>d c>d d>e", "b c", "b c d e"}, {"a>b c>d", "a", "a b"}, {"a>b c>d", "c a", "a b c d"},
		{"m>z m>a z>y a>b", "m", "a b m y z"}, {"m>z m>a z>y a>b", "y b", "b y"}, {"a>b b>a c>d d>c", "d", "c d"},
	} {
		g := drawn(c.graph)
		same(t, c.graph+": Reach("+c.from+")", g.Reach(strings.Fields(c.from)...), strings.Fields(c.want)...)
		if written(g) != written(drawn(c.graph)) {
			t.Errorf("%s has become %s", c.graph, written(g))
		}
	}
}

// 17.2: lines both ways, from a point to itself, points without lines; turned twice it is as it was.
func TestTurned(t *testing.T) {
	for s, want := range map[string]string{"": "", "a": "a", "b a": "a b", "a>b": "a b b>a", "a>b b>a": "a a>b b b>a", "a>a": "a a>a", "a>b a>c": "a b b>a c c>a", "b>a c>a x": "a a>b a>c b c x", "a>b b>c c>a d>a d>d": "a a>c a>d b b>a c c>b d d>d"} {
		g := drawn(s)
		turned := g.Turned()
		if got := written(turned); got != want || turned.Len() != g.Len() {
			t.Errorf("%s turned: %s, not %s", s, got, want)
		}
		if got := written(turned.Turned()); got != written(g) || got != written(drawn(s)) {
			t.Errorf("%s turned twice: %s", s, got)
		}
	}
}

// 17.2: what is written to a graph is not in the one that was turned out of it, nor the other way.
func TestTurnedApart(t *testing.T) {
	g := drawn("a>b c")
	turned := g.Turned()
	g.Link("a", "c")
	g.Link("d", "a")
	g.Add("e")
	if s := written(turned); s != "a b b>a c" {
		t.Errorf("turned: %s", s)
	}
	turned.Link("c", "b")
	turned.Link("b", "f")
	if s := written(g); s != "a a>b a>c b c d d>a e" {
		t.Errorf("the graph: %s", s)
	}
	if s := written(turned); s != "a b b>a b>f c c>b f" {
		t.Errorf("turned: %s", s)
	}
}

// 17.2: the order without rings, with several points of which each could come next.
func TestOrder(t *testing.T) {
	ordered(t, "a>b c>b d>d", "b a c", "d") // the chapter's example
	ordered(t, "", "", "")
	ordered(t, "a", "a", "")
	ordered(t, "c a b", "a b c", "")
	ordered(t, "a>b", "b a", "")
	ordered(t, "b>a", "a b", "")
	ordered(t, "a>b b>c c>d", "d c b a", "")
	ordered(t, "d>c c>b b>a", "a b c d", "")
	ordered(t, "a>z b>z z>c y", "c y z a b", "")
	ordered(t, "a>z b>y c x", "c x y b z a", "")
	ordered(t, "a>d b>c", "c b d a", "")
	ordered(t, "b>c c>d d>e a>e f", "e a d c b f", "")
	ordered(t, "a>b a>c a>d d>b", "b c d a", "")
	ordered(t, "m>a m>z a>z", "z a m", "")
	ordered(t, "e>a d>a c>a b>a", "a b c d e", "")
	ordered(t, "a>e a>d a>c a>b", "b c d e a", "")
	ordered(t, "a>c b>c c>e d>e f>a f>b", "e c a b d f", "")
}

// 17.2: rings of one, two and more points; points that go to a ring are bound, such as a ring goes to are not.
func TestBound(t *testing.T) {
	ordered(t, "a>a", "", "a")
	ordered(t, "a>a b", "b", "a")
	ordered(t, "b>a a>b", "", "a b")
	ordered(t, "c>a a>b b>c", "", "a b c")
	ordered(t, "a>b b>b", "", "a b")
	ordered(t, "b>a b>b", "a", "b")
	ordered(t, "x>a a>b b>a b>m m>k", "k m", "a b x")
	ordered(t, "x>y y>a a>b b>c c>a z>k", "k z", "a b c x y")
	ordered(t, "x>a x>k a>a", "k", "a x")
	ordered(t, "a>b b>a c>d d>c", "", "a b c d")
	ordered(t, "a>b b>a c>d d>e e>c m>c m>a n", "n", "a b c d e m")
	ordered(t, "a>b b>c c>d d>b d>e", "e", "a b c d")
	ordered(t, "z>a a>z m>b b>m c>d", "d c", "a b m z")
}

// R8: of a graph that nobody made nothing is told, and nothing comes to it.
func TestNil(t *testing.T) {
	nobodys(t, "", "a")
	nobodys(t, 0, 7)
	nobodys(t, 0, math.Inf(1))
	nobodys(t, kind(0), 1)
}

// nobodys asks all calls of a graph that nobody made.
func nobodys[K cmp.Ordered](t *testing.T, a, b K) {
	t.Helper()
	var none *graph.Graph[K]
	for _, g := range []*graph.Graph[K]{none, {}} {
		for range 2 {
			l, bound := g.Order()
			if g.Has(a) || g.Has(b) || g.Len() != 0 || len(g.Points()) != 0 || len(g.To(a)) != 0 || len(g.Reach()) != 0 || len(g.Reach(a, b)) != 0 || len(l) != 0 || len(bound) != 0 {
				t.Errorf("of a graph that nobody made something is told: %v", g.Points())
			}
			turned := g.Turned()
			if turned == nil || turned.Len() != 0 || len(turned.Points()) != 0 {
				t.Fatalf("of a graph that nobody made, turned: %v", turned.Points())
			}
			turned.Link(b, a)
			same(t, "Reach of one that was turned", turned.Reach(b), a, b)
			g.Add(a)
			g.Link(a, b)
			g.Link(b, b)
		}
	}
}

// R1, R10: keys that are not equal to themselves, of which nothing is promised.
func TestUnequalKeys(t *testing.T) {
	nan := math.NaN()
	g := graph.New(nan, 1, nan, nan)
	for range 3 {
		g.Link(nan, nan)
		g.Link(1, nan)
		g.Link(nan, 1)
		g.Link(2, 1)
		g.Add(nan)
		g.Has(nan)
		g.To(nan)
		g.Reach(nan, 1, nan, 2)
		for _, g := range []*graph.Graph[float64]{g.Turned(), g.Turned().Turned()} {
			g.Order()
			g.Points()
			g.Reach(g.Points()...)
		}
		g.Order()
	}
}

// spoil writes over a list, and over what lies behind its length.
func spoil(l []string) {
	l = l[:cap(l)]
	for i := range l {
		l[i] = "spoilt"
	}
}

// R5: what is told is the caller's own; no two lists of one answer share memory; what is handed in is neither changed, nor kept, nor read behind its length.
func TestMemory(t *testing.T) {
	given := []string{"c", "a", "b", "a", "d", "e"}
	g := graph.New(given[:4]...)
	same(t, "what was handed to New", given, "c", "a", "b", "a", "d", "e")
	spoil(given)
	for _, w := range []string{"a", "b", "c"} {
		g.Link("m", w)
		g.Link(w, "z")
	}
	g.Link("x", "x")
	g.Link("y", "x")
	was := "a a>z b b>z c c>z m m>a m>b m>c x x>x y y>x z"
	for range 2 {
		if got := written(g); got != was {
			t.Errorf("the graph: %s", got)
		}
		spoil(g.Points())
		spoil(g.To("m"))
		spoil(g.Reach("m", "y"))
		l, bound := g.Order()
		spoil(l)
		same(t, "what is bound", bound, "x", "y")
		l, bound = g.Order()
		spoil(bound)
		same(t, "the order", l, "z", "a", "b", "c", "m")
	}
	from := []string{"m", "y", "m", "behind", "behind"}
	same(t, "Reach", g.Reach(from[:2]...), "a", "b", "c", "m", "x", "y", "z")
	same(t, "what was handed to Reach", from, "m", "y", "m", "behind", "behind")
	if got := written(g); got != was {
		t.Errorf("the graph: %s", got)
	}
}
