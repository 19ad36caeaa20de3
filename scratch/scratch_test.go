package scratch_test

import (
	"math"
	"slices"
	"strconv"
	"strings"
	"testing"

	"treillage/api"
	"treillage/code"
	"treillage/expr"
	"treillage/gather"
	"treillage/scratch"
)

// plenty is more fuel than any of the tests' nodes take.
const plenty = 1 << 20

// config are the nodes of one file.
func config(t *testing.T, text string) []api.Node {
	t.Helper()
	nodes, _, at, e := gather.Nodes([]api.Source{{Name: "a", Text: text}})
	if e != api.OK {
		t.Fatalf("Nodes(%q): %d %d", text, at, e)
	}
	return nodes
}

// said is a result as a text of the tests' own: an error as its number with a mark ahead, a number as its digits, other values by their bytes.
func said(r api.Result) string {
	switch l := r.V.Terms; {
	case r.E != api.OK && len(l) == 0:
		return "!" + strconv.Itoa(int(r.E))
	case r.E != api.OK:
		return "! beside a value"
	case len(l) == 0:
		return "none"
	case len(l) == 1 && l[0].Kind == api.KInt && l[0].Lo == l[0].Hi:
		return strconv.Itoa(l[0].Lo)
	}
	s, e := code.Encode(r.V)
	if e != api.OK {
		return "a value that is not right"
	}
	return strconv.Quote(s)
}

// saidAll is what All tells.
func saidAll(l []api.Dep, steps int) string {
	var words []string
	for _, d := range l {
		words = append(words, d.Name+"="+said(d.R))
	}
	return strings.Join(append(words, "in", strconv.Itoa(steps)), " ")
}

// all is what All tells of names, with blanks between.
func all(nodes []api.Node, fuel int, names string) string {
	return saidAll(scratch.All(nodes, fuel, strings.Fields(names)...))
}

// ref, number, kids and node are short for expressions and nodes.
func ref(path ...string) api.Expr              { return api.Expr{Op: api.OpRef, Path: path} }
func number(n int) api.Expr                    { return api.Expr{Op: api.OpInt, N: n} }
func kids(op int, l ...api.Expr) api.Expr      { return api.Expr{Op: op, Kids: l} }
func node(name string, l ...api.Expr) api.Node { return api.Node{Name: name, Defs: l} }

// The configurations that several tests read.
const (
	chain = "a: b + 1; b: c + 1; c: 1; d: 7;"
	star  = "a: hub + 1; b: hub + 2; c: hub + a; hub: 1 + 2 + 3;"
	rings = "a: b; b: a; c: a + 1; d: d; e: f & g; f: 1; g: h; h: i; i: g | lost; j: 1 | i; k: 9; l: k - j;"
)

// 20.1: names that are read from none, one, several, one twice, one that is no node's: the nodes that were evaluated, rising, and the steps of all together.
func TestAll(t *testing.T) {
	for _, c := range []struct {
		text  string
		fuel  int
		names string
		want  string
	}{
		{"", plenty, "", "in 0"}, {"", plenty, "a", "in 0"}, {"a: 1;", plenty, "", "in 0"}, {"a: 1;", plenty, "a", "a=1 in 1"}, {"a: 1;", plenty, "a a", "a=1 in 1"}, {"a: 1;", plenty, "b a c", "a=1 in 1"}, {"a: 1;", plenty, "b", "in 0"},
		{chain, plenty, "c", "c=1 in 1"}, {chain, plenty, "b", "b=2 c=1 in 4"}, {chain, plenty, "a", "a=3 b=2 c=1 in 7"}, {chain, plenty, "a d", "a=3 b=2 c=1 d=7 in 8"}, {chain, plenty, "d c b a", "a=3 b=2 c=1 d=7 in 8"}, {chain, plenty, "b b x a b", "a=3 b=2 c=1 in 7"},
		{star, plenty, "a", "a=7 hub=6 in 8"}, {star, plenty, "c", "a=7 c=13 hub=6 in 11"}, {star, plenty, "a b c", "a=7 b=8 c=13 hub=6 in 14"}, {star, plenty, "c b a hub", "a=7 b=8 c=13 hub=6 in 14"},
		{rings, plenty, "a", "a=!24 b=!24 in 2"}, {rings, plenty, "b", "a=!24 b=!24 in 2"}, {rings, plenty, "c", "a=!24 b=!24 c=!24 in 4"}, {rings, plenty, "d", "d=!24 in 1"}, {rings, plenty, "e", "e=!24 f=1 g=!24 h=!24 i=!24 in 8"}, {rings, plenty, "i", "g=!24 h=!24 i=!24 in 4"}, {rings, plenty, "l", "g=!24 h=!24 i=!24 j=!24 k=9 l=!24 in 11"}, {rings, plenty, "k d", "d=!24 k=9 in 2"},
		{"a: lost;", plenty, "a", "a=!23 in 1"}, {"a: b.c; b: {c: lost;};", plenty, "a", "a=!23 b=!23 in 3"}, {"a: b.x; b: none;", plenty, "a", "a=!31 b=none in 2"}, {"a: b + c; b: true + 1; c: 1;", plenty, "a", "a=!27 b=!27 in 5"}, {"a: c + b; b: true + 1; c: 1;", plenty, "a", "a=!27 b=!27 c=1 in 7"},
		// Fuel is each node's own.
		{chain, 3, "a", "a=3 b=2 c=1 in 7"}, {chain, 2, "a", "a=!26 b=!26 c=1 in 5"}, {chain, 1, "a", "a=!26 in 1"}, {chain, 0, "a", "a=!26 in 0"}, {chain, -5, "a c", "a=!26 c=!26 in 0"}, {chain, math.MaxInt, "a", "a=3 b=2 c=1 in 7"}, {chain, math.MinInt, "x", "in 0"}, {star, 3, "b a", "a=!26 b=!26 hub=!26 in 7"}, {rings, 1, "b", "a=!24 b=!24 in 2"}, {rings, 0, "b", "b=!26 in 0"},
		// The document's examples.
		{"x: >=1 & <=9; x: 5 | 20;", plenty, "x", "x=5 in 6"}, {"a: 1 + 2;", 2, "a", "a=!26 in 2"}, {"a: b; b: a;", plenty, "b a", "a=!24 b=!24 in 2"}, {"resource web: {n: net.n;}; resource net: {n: 4;};", plenty, "web.n web", all(config(t, "net: {n: 4;}; web: {n: 4;};"), plenty, "net web")},
	} {
		nodes := config(t, c.text)
		for range 2 {
			if got := all(nodes, c.fuel, c.names); got != c.want {
				t.Errorf("%s with %d from %s: %s, not %s", c.text, c.fuel, c.names, got, c.want)
			}
			slices.Reverse(nodes)
		}
	}
}

// 20.1: what a name is read as in a run from it alone.
func TestOne(t *testing.T) {
	for text, want := range map[string]string{
		"a: 1;": "a=1 b=!23", chain: "a=3 b=2 c=1 d=7 x=!23", star: "a=7 b=8 c=13 hub=6", rings: "a=!24 b=!24 c=!24 d=!24 e=!24 f=1 g=!24 h=!24 i=!24 j=!24 k=9 l=!24 lost=!23",
		"a: b.x.y; b: {x: {y: c;};}; c: d & int; d: computed & 3;": "a=3 c=3 d=3", "a: 1 & 2; b: a | 3; c: a + 1; d: c;": "a=none b=3 c=!31 d=!31", "a: any; b: a + 1; c: a.x; d: a & 4;": "b=!28 c=!28 d=4",
	} {
		nodes := config(t, text)
		for _, w := range strings.Fields(want) {
			s, r, _ := strings.Cut(w, "=")
			if got := said(scratch.One(nodes, plenty, s)); got != r {
				t.Errorf("%s: %s is read as %s, not %s", text, s, got, r)
			}
		}
	}
	for _, s := range []string{"", "a", "int", "\xff"} {
		if got := said(scratch.One(nil, plenty, s)); got != "!23" {
			t.Errorf("of nothing %q is read as %s", s, got)
		}
	}
	if a, b, c := said(scratch.One(config(t, chain), 2, "a")), said(scratch.One(config(t, chain), 0, "c")), said(scratch.One(config(t, chain), -1, "x")); a != "!26" || b != "!26" || c != "!23" {
		t.Errorf("with little fuel: %s %s %s", a, b, c)
	}
}

// 20.1: nodes that many read are evaluated once, however many ways lead to them.
func TestOnce(t *testing.T) {
	var nodes []api.Node
	name := func(i int) string { return "n" + strconv.Itoa(1000+i) }
	for i := range 200 {
		nodes = append(nodes, node(name(i), kids(api.OpMeet, ref(name(i+1)), ref(name(i+2)), ref(name(i+1)))))
	}
	nodes = append(nodes, node(name(200), number(4)), node(name(201), number(4), number(4)))
	l, steps := scratch.All(nodes, 4, name(0), name(7))
	if len(l) != 202 || steps != 200*4+3 || said(l[0].R) != "4" || !slices.IsSortedFunc(l, func(a, b api.Dep) int { return strings.Compare(a.Name, b.Name) }) {
		t.Errorf("%.200s", saidAll(l, steps))
	}
	if s := said(scratch.One(nodes, 4, name(0))); s != "4" {
		t.Errorf("One: %s", s)
	}
}

// 20.1, R1: nodes that no file makes: no definitions, such as may not be, names that are none; and any names that are read.
func TestAnyNodes(t *testing.T) {
	nodes := []api.Node{
		node(""), node("\xff", number(1)), node("int", number(2)), node("A b", ref("a")), node("a", ref("int")), node("b", ref("c")), node("c"), node("d", ref("e")), node("e", api.Expr{}), node("f", number(1), kids(api.OpMeet)), node(strings.Repeat("x", 99), ref("b")), {Name: "web", Res: true, Defs: []api.Expr{number(8)}}, node("z", ref("web"), ref("f")),
	}
	for s, want := range map[string]string{"": "!1", "\xff": "1", "int": "2", "A b": "!1", "a": "!1", "b": "!1", "c": "!1", "d": "!1", "e": "!1", "f": "!1", strings.Repeat("x", 99): "!1", "web": "8", "z": "!1", "lost": "!23", "A": "!23"} {
		if got := said(scratch.One(nodes, plenty, s)); got != want {
			t.Errorf("%q is read as %s, not %s", s, got, want)
		}
	}
	l, steps := scratch.All(nodes, plenty, "z", "\xff", "", "nobody", "d", "A b")
	if got, want := saidAll(l, steps), "=!1 A b=!1 a=!1 d=!1 e=!1 f=!1 web=8 z=!1 \xff=1 in 6"; got != want {
		t.Errorf("%q, not %q", got, want)
	}
	twice := []api.Node{node("a", ref("b")), node("b", ref("a")), node("a", number(1)), node("b", ref("b"))}
	for _, s := range []string{"a", "b", "c"} {
		scratch.All(twice, plenty, s, "a", "b")
		scratch.One(twice, plenty, s)
	}
}

// lists are where the elements of a value's lists stand.
func lists(v api.Value) (l []any) {
	for i := range v.Terms {
		l = append(l, &v.Terms[i])
		for j := range v.Terms[i].Fields {
			l = append(l, &v.Terms[i].Fields[j])
			l = append(l, lists(v.Terms[i].Fields[j].V)...)
		}
	}
	return l
}

// R5: what is answered is new each time, and no two of it share memory; what is handed in is not changed, nor looked at behind its length.
func TestMemory(t *testing.T) {
	text := "a: {x: b; y: b; z: c.x;}; b: {n: 4; t: any; ...}; c: {x: b; y: lost;} | none; d: b; e: {x: d; y: a;}; e: any; f: c;"
	nodes := append(config(t, text), node("nobody", number(1)))[:6]
	names := []string{"e", "f", "d", "nobody"}[:3]
	var was []api.Node
	for _, n := range nodes[:7] {
		c := n
		c.Defs = nil
		for _, e := range n.Defs {
			c.Defs = append(c.Defs, expr.Copy(e))
		}
		was = append(was, c)
	}
	want := saidAll(scratch.All(nodes, plenty, names...))
	if !strings.HasPrefix(want, "a=!23 b=") || strings.Contains(want, "nobody") {
		t.Fatalf("%s", want)
	}
	for range 2 {
		l, steps := scratch.All(nodes, plenty, names...)
		if got := saidAll(l, steps); got != want {
			t.Errorf("%s, not %s", got, want)
		}
		one := scratch.One(nodes, plenty, "d")
		seen := map[any]bool{}
		for _, r := range append(l, api.Dep{R: one}) {
			for _, p := range lists(r.R.V) {
				if seen[p] {
					t.Fatalf("memory is shared")
				}
				seen[p] = true
			}
		}
		for _, r := range append(l, api.Dep{R: one}) {
			for _, p := range lists(r.R.V) {
				if f, ok := p.(*api.Field); ok {
					*f = api.Field{Name: "spoilt"}
				}
			}
		}
		for i, n := range nodes[:7] {
			if n.Name != was[i].Name || n.Res != was[i].Res || !slices.EqualFunc(n.Defs, was[i].Defs, expr.Same) {
				t.Errorf("%s has changed", n.Name)
			}
		}
		if !slices.Equal(names[:4], []string{"e", "f", "d", "nobody"}) {
			t.Errorf("the names have become %v", names[:4])
		}
	}
}
