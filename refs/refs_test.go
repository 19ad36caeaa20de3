package refs_test

import (
	"fmt"
	"reflect"
	"slices"
	"strings"
	"testing"

	"treillage/api"
	"treillage/expr"
	"treillage/gather"
	"treillage/graph"
	"treillage/refs"
)

// config are the nodes of one file.
func config(t *testing.T, text string) []api.Node {
	t.Helper()
	nodes, _, at, e := gather.Nodes([]api.Source{{Name: "a", Text: text}})
	if e != api.OK {
		t.Fatalf("Nodes(%q): %d %d", text, at, e)
	}
	return nodes
}

// ref, kids and pair are short for expressions.
func ref(path ...string) api.Expr              { return api.Expr{Op: api.OpRef, Path: path} }
func kids(op int, l ...api.Expr) api.Expr      { return api.Expr{Op: op, Kids: l} }
func pair(name string, e api.Expr) api.Pair    { return api.Pair{Name: name, E: e} }
func node(name string, l ...api.Expr) api.Node { return api.Node{Name: name, Defs: l} }
func resource(name string, l ...api.Expr) api.Node {
	return api.Node{Name: name, Res: true, Defs: l}
}

// reading are references to some names.
func reading(names ...string) []api.Expr {
	var l []api.Expr
	for _, s := range names {
		l = append(l, ref(s))
	}
	return l
}

// same fails, if a list has not the words that are asked, in their order.
func same(t *testing.T, what string, got []string, want string) {
	t.Helper()
	if !slices.Equal(got, strings.Fields(want)) {
		t.Errorf("%s: %q, not %q", what, got, strings.Fields(want))
	}
}

// written is a graph: its points, rising, each with its lines, rising.
func written(g *graph.Graph[string]) string {
	var l []string
	for _, k := range g.Points() {
		l = append(l, k)
		for _, to := range g.To(k) {
			l = append(l, k+">"+to)
		}
	}
	return strings.Join(l, " ")
}

// 18.1: definitions that read no name, one, several, one twice, in one definition and in several; in the order in which they come first.
func TestOf(t *testing.T) {
	for text, want := range map[string]string{
		"x: 1;": "", "x: \"a\";": "", "x: {a: 1; b: {c: \"d\"; ...};};": "", "x: none | any & computed;": "", "x: int & >=1 & <=9 | string | bool | true;": "",
		"x: a;": "a", "x: a.b.c;": "a", "x: a.x;": "a", "x: x;": "x", "x: x.x + 1;": "x",
		"x: a | b;": "a b", "x: b | a;": "b a", "x: a | a;": "a", "x: b & a | b.c;": "b a", "x: a.b + b.a * a.c;": "a b",
		"x: c; x: a; x: b;": "c a b", "x: c; x: c;": "c", "x: c & a; x: a & b & c;": "c a b", "x: 1; x: z; x: 2; x: a; x: z;": "z a", "x: c.d; x: d.c; x: c;": "c d",
		"x: (d | c) & {e: b; f: {g: a - d;};};": "d c b a", "x: {b: c; c: b; d: {e: c; f: z.e;};};": "c b z",
		"x: a * (b - c) + d & e | f;": "a b c d e f", "x: f | e & d + (c - b) * a;": "f e d c b a", "x: y; x: x; x: y & w;": "y x w",
	} {
		nodes := config(t, text)
		same(t, "Of "+text, refs.Of(nodes[0]), want)
		nodes[0].Res = true
		same(t, "Of a resource, "+text, refs.Of(nodes[0]), want)
		if got, want := written(refs.Graph(nodes)), written(modelOf(nodes).drawn()); got != want {
			t.Errorf("Graph of %s: %s, not %s", text, got, want)
		}
	}
	same(t, "Of nothing", refs.Of(api.Node{}), "")
	same(t, "Of no definitions", refs.Of(node("a")), "")
	same(t, "Of no expression", refs.Of(node("a", api.Expr{})), "")
}

// 18.1: a name at each part of each operation, deep, beside others and in definitions behind each other.
func TestOfParts(t *testing.T) {
	one, a := api.Expr{Op: api.OpInt, N: 1}, ref("a", "b")
	within := []api.Expr{a}
	for _, op := range []int{api.OpMeet, api.OpJoin, api.OpAdd, api.OpSub, api.OpMul} {
		within = append(within, kids(op, a, one), kids(op, one, a), kids(op, a, a))
	}
	within = append(within, kids(api.OpMeet, one, a, one), kids(api.OpJoin, one, one, one, a))
	for at := range 3 {
		pairs := []api.Pair{pair("b", one), pair("c", one), pair("d", one)}
		pairs[at].E = a
		within = append(within, api.Expr{Op: api.OpStruct, Pairs: pairs}, api.Expr{Op: api.OpStruct, Pairs: pairs, Open: true})
	}
	for _, e := range within {
		same(t, fmt.Sprint("Of ", e), refs.Of(node("x", e)), "a")
		same(t, fmt.Sprint("Of two, behind ", e), refs.Of(node("x", e, ref("c"), e)), "a c")
		same(t, fmt.Sprint("Of two, ahead of ", e), refs.Of(node("x", ref("c"), e, ref("c"))), "c a")
		for _, f := range within {
			deep := kids(api.OpJoin, one, api.Expr{Op: api.OpStruct, Pairs: []api.Pair{pair("z", f), pair("zz", e)}}, ref("d"))
			same(t, fmt.Sprint("Of ", deep), refs.Of(node("x", deep)), "a d")
		}
	}
}

// 18.1: names of such expressions as may not be, and of no name: all that are OpRef and have a Path.
func TestOfWrong(t *testing.T) {
	for want, e := range map[string]api.Expr{
		"": ref(), "int": ref("int"), "A": ref("A", "b"), "a.b": ref("a.b"), "b": kids(0, ref("b")), "c": kids(99, kids(-1, ref("c"))), "d": kids(api.OpInt, ref("d")), "e": kids(api.OpMeet, ref("e")),
		"f g": {Op: api.OpRef, Path: []string{"f"}, Kids: reading("g")}, "h": {Op: api.OpStruct, Pairs: []api.Pair{pair("int", ref("h"))}, Kids: reading("i")},
		"j": {Op: api.OpJoin, Pairs: []api.Pair{pair("a", ref("k"))}, Kids: reading("j")}, "l": {Op: api.OpRef, Text: "m", N: 7, Open: true, Path: []string{"l", "n"}, Pairs: []api.Pair{pair("a", ref("o"))}},
	} {
		same(t, fmt.Sprint("Of ", e), refs.Of(node("x", e)), want)
	}
	same(t, "Of a text", refs.Of(node("x", api.Expr{Op: api.OpText, Text: "a", Path: []string{"b"}})), "")
	for _, s := range []string{"", "a b", "\xff", strings.Repeat("a", 1<<16)} {
		if l := refs.Of(node("x", ref(s), ref("y"), ref(s))); !slices.Equal(l, []string{s, "y"}) {
			t.Errorf("Of a name that is none, %.20q: %.50q", s, l)
		}
	}
}

// 18.1: graphs of nodes, and of names that are none; lines to themselves; names that nobody reads.
func TestGraph(t *testing.T) {
	for text, want := range map[string]string{
		"": "", "x: 1;": "x", "x: x;": "x x>x", "x: y;": "x x>y y", "y: x;": "x y y>x", "x: y; y: x;": "x x>y y y>x", "x: y; x: z; x: y;": "x x>y x>z y z",
		"resource a: b; b: c; resource c: a;": "a a>b b b>c c c>a", "b: a; d: a; c: 1;": "a b b>a c d d>a", "x: {y: z.w;}; w: 1;": "w x x>z z",
	} {
		if got := written(refs.Graph(config(t, text))); got != want {
			t.Errorf("Graph of %s: %s, not %s", text, got, want)
		}
	}
	for _, l := range [][]api.Node{nil, {}} {
		if g := refs.Graph(l); g == nil || g.Len() != 0 {
			t.Fatalf("Graph of nothing: %v", g)
		}
	}
}

// 18.1: names that are read, and are no node's, rising, each once; the resources, rising.
func TestMissingAndThings(t *testing.T) {
	for _, c := range []struct{ text, missing, things string }{
		{"", "", ""}, {"x: 1;", "", ""}, {"x: y;", "y", ""}, {"x: x;", "", ""}, {"x: y; y: 1;", "", ""}, {"x: z & y;", "y z", ""}, {"x: z; w: z; v: y; v: z;", "y z", ""},
		{"resource x: 1;", "", "x"}, {"resource x: y;", "y", "x"}, {"resource z: y; resource x: z; y: 1;", "", "x z"}, {"resource z: q; resource a: z; resource m: p; y: b;", "b p q", "a m z"},
		{"x: 1; resource x: 2;", "", "x"}, {"resource x: 1; x: 2; x: 3;", "", "x"}, {"x: {y: 1; z: y.z;};", "y", ""}, {"resource a: b; b: c; resource c: a;", "", "a c"}, {"a: aa & ab & b; aa: 1;", "ab b", ""},
	} {
		nodes := config(t, c.text)
		for range 2 {
			same(t, "Missing of "+c.text, refs.Missing(nodes), c.missing)
			same(t, "Things of "+c.text, refs.Things(nodes), c.things)
			slices.Reverse(nodes)
		}
	}
	same(t, "Missing of nothing", refs.Missing(nil), "")
	same(t, "Things of nothing", refs.Things(nil), "")
}

// 18.2: a name that hangs on a resource at once, over nodes that are none, on none, on itself over a ring; not past a resource on the way.
func TestDeps(t *testing.T) {
	for _, c := range []struct{ text, want string }{
		{"resource a: b; b: c; resource c: a;", "a: c; b: c; c: a"}, // the chapter's example
		{"resource a: 1;", "a:"}, {"a: 1;", "a:"}, {"resource a: a;", "a:"}, {"a: a;", "a:"}, {"a: b;", "a:; b:"},
		{"resource a: b; resource b: 1;", "a: b; b:"}, {"a: b; resource b: 1;", "a: b; b:"}, {"resource a: b; b: 1;", "a:; b:"},
		{"resource a: b; resource b: c; resource c: 1;", "a: b; b: c; c:"}, {"resource a: b & c; resource b: c; resource c: 1;", "a: b c; b: c; c:"},
		{"resource a: b; b: c; c: d; d: e; resource e: 1;", "a: e; b: e; c: e; d: e; e:"}, {"a: b; b: c; resource c: d; d: e; resource e: 1;", "a: c; b: c; c: e; d: e"},
		{"resource a: b; resource b: a;", "a: b; b: a"}, {"resource a: b; b: a;", "a:; b: a"}, {"a: b; b: c; c: a & r; resource r: 1;", "a: r; b: r; c: r; r:"},
		{"resource a: b; resource b: c; resource c: a;", "a: b; b: c; c: a"}, {"resource a: x; x: y; y: x & a & b; resource b: x;", "a: b; b: a; x: a b; y: a b"},
		{"m: z & a & k & b; resource z: 1; resource a: 1; k: c; resource c: q; resource q: 1; resource b: 1;", "m: a b c z; k: c; c: q"},
		{"x: n.n & n; n: net.n; n: net; resource net: {n: 4;};", "x: net; n: net"}, {"a: nowhere & r; resource r: nowhere;", "a: r; r:"},
		{"a: r & b; resource r: c; b: c; resource c: 1;", "a: c r; b: c; r: c"}, {"a: r; resource r: a & c; resource c: 1;", "a: r; r: c; c:"},
		{"a: r; resource r: b; b: a & q; resource q: 1;", "a: r; r: q; b: q r"},
	} {
		nodes := config(t, c.text)
		for range 2 {
			for _, w := range strings.Split(c.want, ";") {
				s, deps, _ := strings.Cut(strings.TrimSpace(w), ":")
				same(t, "of "+c.text+" Deps("+s+")", refs.Deps(nodes, s), deps)
			}
			for _, s := range []string{"", "nowhere", "A", "int", "a.b", "\xff"} {
				same(t, "of "+c.text+" Deps("+s+")", refs.Deps(nodes, s), "")
			}
			slices.Reverse(nodes)
		}
	}
	same(t, "Deps of nothing", refs.Deps(nil, "a"), "")
	same(t, "Deps of no name", refs.Deps(nil, ""), "")
}

// 18.2: what is read from no name, one, several, one twice, such as are no node's; and what is touched by these.
func TestReadsAndTouched(t *testing.T) {
	const chain, ring, wide = "a: b; b: c; c: 1; resource d: c;", "a: b; b: c; resource c: a; x: a; c: y;", "m: z & a & q; z: y; y: 1; q: p; o: q;"
	for _, c := range []struct{ text, names, reads, touched string }{
		{"", "", "", ""}, {"", "a", "", ""}, {"a: 1;", "", "", ""}, {"a: 1;", "a", "a", "a"}, {"a: 1;", "b", "", ""}, {"a: a;", "a a", "a", "a"},
		{chain, "", "", ""}, {chain, "a", "a b c", "a"}, {chain, "b", "b c", "a b"}, {chain, "c", "c", "a b c d"}, {chain, "d", "c d", "d"},
		{chain, "b d", "b c d", "a b d"}, {chain, "d b", "b c d", "a b d"}, {chain, "a a", "a b c", "a"}, {chain, "d a d", "a b c d", "a d"}, {chain, "x a y", "a b c", "a"}, {chain, "x", "", ""},
		{ring, "a", "a b c", "a b c x"}, {ring, "c", "a b c", "a b c x"}, {ring, "x", "a b c x", "x"}, {ring, "y", "", "a b c x"}, {ring, "y x", "a b c x", "a b c x"}, {ring, "z", "", ""},
		{wide, "m", "m q y z", "m"}, {wide, "a", "", "m"}, {wide, "p", "", "m o q"}, {wide, "p y", "y", "m o q y z"}, {wide, "o z", "o q y z", "m o z"}, {wide, "z z y z", "y z", "m y z"},
		{"a: b; c: b;", "b", "", "a c"}, {"a: b; c: b;", "a", "a", "a"}, {"a: b; c: b;", "b c", "c", "a c"}, {"a: b.c;", "c", "", ""},
	} {
		nodes := config(t, c.text)
		for range 2 {
			same(t, "of "+c.text+" Reads("+c.names+")", refs.Reads(nodes, strings.Fields(c.names)...), c.reads)
			same(t, "of "+c.text+" Touched("+c.names+")", refs.Touched(nodes, strings.Fields(c.names)...), c.touched)
			slices.Reverse(nodes)
		}
	}
	same(t, "Reads of nothing", refs.Reads(nil, "a", ""), "")
	same(t, "Touched of nothing", refs.Touched(nil, "a", ""), "")
}

// 18.1, 18.2: names that are none, of nodes and of what these read, are names as others are.
func TestAnyNames(t *testing.T) {
	nodes := []api.Node{resource("\xff", reading("", "int")...), node("", reading("int")...), resource("int", reading("A", "")...), node("Z")}
	if l := refs.Things(nodes); !slices.Equal(l, []string{"int", "\xff"}) {
		t.Errorf("Things: %q", l)
	}
	if l := refs.Missing(nodes); !slices.Equal(l, []string{"A"}) {
		t.Errorf("Missing: %q", l)
	}
	for s, want := range map[string][]string{"\xff": {"int"}, "": {"int"}, "int": {}, "A": {}, "Z": {}} {
		if l := refs.Deps(nodes, s); !slices.Equal(l, want) {
			t.Errorf("Deps(%q): %q", s, l)
		}
	}
	if l := refs.Reads(nodes, "\xff", "Z", "A"); !slices.Equal(l, []string{"", "Z", "int", "\xff"}) {
		t.Errorf("Reads: %q", l)
	}
	if l := refs.Touched(nodes, "A"); !slices.Equal(l, []string{"", "int", "\xff"}) {
		t.Errorf("Touched: %q", l)
	}
}

// spoil writes over a list, and over what lies behind its length.
func spoil(l []string) {
	l = l[:cap(l)]
	for i := range l {
		l[i] = "spoilt"
	}
}

// R5: what is handed in is neither changed, nor kept, nor read behind its length; what is answered is new each time.
func TestMemory(t *testing.T) {
	text := "resource a: b & x; b: c; resource c: a; d: {e: c;}; d: y;"
	nodes := append(config(t, text), node("z", ref("never")))[:4]
	was := copied(nodes[:5])
	names := []string{"d", "x", "a"}
	for range 2 {
		same(t, "Reads", refs.Reads(nodes, names[:2]...), "a b c d")
		same(t, "Touched", refs.Touched(nodes, names[:2]...), "a b c d")
		for _, l := range [][]string{refs.Of(nodes[0]), refs.Of(nodes[3]), refs.Missing(nodes), refs.Things(nodes), refs.Deps(nodes, "d"), refs.Deps(nodes, "a"), refs.Reads(nodes, names[:1]...), refs.Touched(nodes, names[:2]...)} {
			spoil(l)
		}
		g := refs.Graph(nodes)
		g.Link("q", "a")
		g.Link("a", "d")
		same(t, "Of", refs.Of(nodes[3]), "c y")
		same(t, "Missing", refs.Missing(nodes), "x y")
		same(t, "Things", refs.Things(nodes), "a c")
		same(t, "Deps", refs.Deps(nodes, "d"), "c")
		if s := written(refs.Graph(nodes)); s != "a a>b a>x b b>c c c>a d d>c d>y x y" {
			t.Errorf("Graph: %s", s)
		}
	}
	if !reflect.DeepEqual(nodes[:5], was) || !slices.Equal(names, []string{"d", "x", "a"}) {
		t.Errorf("what was handed in has become %v, %v", nodes[:5], names)
	}
	g := refs.Graph(nodes)
	nodes[0].Defs[0].Kids[0].Path[0], nodes[1].Name = "spoilt", "spoilt"
	if s := written(g); s != "a a>b a>x b b>c c c>a d d>c d>y x y" {
		t.Errorf("Graph: %s", s)
	}
}

// copied are copies of nodes.
func copied(nodes []api.Node) []api.Node {
	l := slices.Clone(nodes)
	for i, n := range nodes {
		l[i].Defs = nil
		for _, e := range n.Defs {
			l[i].Defs = append(l[i].Defs, expr.Copy(e))
		}
	}
	return l
}
