package dirty_test

import (
	"slices"
	"strconv"
	"strings"
	"testing"

	"treillage/api"
	"treillage/dirty"
)

// 27.1: no file on one side, or on both; files in one list alone, of another text, of no text, in any order; names that are none.
func TestFiles(t *testing.T) {
	for _, c := range []struct{ old, now, want string }{
		{"", "", ""},
		{"a=x: 1;", "", "a"},
		{"a=", "", "a"},
		{"a=\nb=y: 1;\nc=", "", "a b c"},
		{"a=x: 1;", "a=x: 1;", ""},
		{"a=", "a=", ""},
		{"a=x: 1;", "a=x: 2;", "a"},
		{"a=x: 1;", "a=x: 1; ", "a"},
		{"a=x: 1;", "a=", "a"},
		{"a=x: 1;", "b=x: 1;", "a b"},
		{"a=x: 1;\nb=y: 1;", "b=y: 1;", "a"},
		{"a=x: 1;\nb=y: 1;", "a=y: 1;\nb=x: 1;", "a b"},
		{"a=x: 1;\nb=y: 1;\nc=z: 1;", "a=x: 1;\nb=y: 2;\nd=z: 1;", "b c d"},
		{"c=1\na=1\nb=1", "b=1\nd=1\nc=1", "a d"},
		{"c=1\na=1\nb=1", "b=1\na=1\nc=1", ""},
		{"b=no text of the language\na=;;", "a=;;\nb=no text of the\x00 language", "b"},
		{"Int=1\nint=1\n\xff=1", "int=2\nInt=2", "Int int \xff"},
		{"=1", "a=1\n=2", " a"},
		{"b=1\naa=1\nab=1\na=1", "", "a aa ab b"},
	} {
		old, now := files(c.old), files(c.now)
		for _, x := range [][2][]api.Source{{old, now}, {now, old}} {
			if got := dirty.Files(x[0], x[1]); words(got) != c.want {
				t.Errorf("%q, then %q: %q, not %q", x[0], x[1], got, c.want)
			}
		}
	}
	if l := dirty.Files(nil, []api.Source{}); len(l) != 0 {
		t.Errorf("of nothing: %q", l)
	}
}

// 27.1: many files, more than a configuration may have.
func TestManyFiles(t *testing.T) {
	var old, now []api.Source
	var want []string
	for i := range 5000 {
		f := api.Source{Name: "f" + strconv.Itoa(10000+i), Text: strings.Repeat("x", i%7)}
		if i%5 != 0 {
			old = append(old, f)
		}
		if i%11 == 0 {
			f.Text += "y"
		}
		if i%3 != 0 {
			now = append(now, f)
		}
		if (i%5 != 0) != (i%3 != 0) || i%5 != 0 && i%11 == 0 {
			want = append(want, f.Name)
		}
	}
	slices.Reverse(now)
	is(t, "of many", dirty.Files(old, now), words(want))
}

// 27.1: which names have changed, and which nodes are dirty for it.
func TestNodes(t *testing.T) {
	for _, c := range []struct{ old, now, names, nodes string }{
		{"", "", "", ""},
		{"", "a: 1; b: a;", "a b", "a b"},
		{"a: 1; b: a;", "", "a b", ""},
		{"a: 1;", "a: 1;", "", ""},
		// The document's examples.
		{"a: b; b: 1;", "a: b; b: 2;", "b", "a b"},
		{"size: 2 + 1; x: size;", "size: 3; x: size;", "size", "size x"},
		// The same definitions, in another order, one more, one less, one twice.
		{"a: 1; a: int;", "a: int; a: 1;", "a", "a"},
		{"a: 1; b: 2; a: int;", "b: 2; a: 1; a: int;", "", ""},
		{"a: int;", "a: int; a: 1;", "a", "a"},
		{"a: int; a: 1;", "a: int;", "a", "a"},
		{"a: 1; a: int;", "a: int;", "a", "a"},
		{"a: 1;", "a: 1; a: 1;", "a", "a"},
		{"a: 1; a: 1; a: 2;", "a: 1; a: 2; a: 2;", "a", "a"},
		// Written otherwise, but read as the same; and what comes to the same, but is another one.
		{"a: 1|(2&b);b:{x:1;};", "# more\na: (1) | 2 & b; b: { x : 1 ; };", "", ""},
		{"a: 1 | 2;", "a: 2 | 1;", "a", "a"},
		{"a: 1 + 2;", "a: 3;", "a", "a"},
		{"a: {x: 1;};", "a: {x: 1; ...};", "a", "a"},
		{"a: {x: b;}; b: 1;", "a: {x: b; y: b;}; b: 1;", "a", "a"},
		{"a: b.x; b: 1;", "a: b.y; b: 1;", "a", "a"},
		{"a: \"b\"; b: \"\";", "a: \"b\"; b: \" \";", "b", "b"},
		// Whether one is a resource is no part of what it is defined as.
		{"a: 1; b: a;", "resource a: 1; resource b: a;", "", ""},
		{"resource a: 1; a: 2;", "a: 1; resource a: 2;", "", ""},
		// Over one line, over many; what is reached from what has changed is not dirty for it.
		{"a: b; b: c; c: 1; d: 2;", "a: b; b: c; c: 2; d: 2;", "c", "a b c"},
		{"a: b; b: c; c: 1; d: c;", "a: b; b: c + 1; c: 1; d: c;", "b", "a b"},
		{"a: b; b: c; c: 1; d: c;", "a: b | 1; b: c; c: 1; d: c;", "a", "a"},
		{"a: b; b: c; c: d; d: e; e: f; f: 1; g: 1;", "a: b; b: c; c: d; d: e; e: f; f: 2; g: 1;", "f", "a b c d e f"},
		{"a: {x: {y: b.z & 1;};}; b: 1;", "a: {x: {y: b.z & 1;};}; b: 2;", "b", "a b"},
		{"a: int; a: b; b: 1;", "a: int; a: b; b: 2;", "b", "a b"},
		// Over a ring, and within one.
		{"a: b; b: c; c: a; d: c; e: 1;", "a: b; b: c; c: a | 1; d: c; e: 1;", "c", "a b c d"},
		{"a: b; b: c | e; c: a; d: c; e: 1; f: d;", "a: b; b: c | e; c: a; d: c; e: 2; f: d;", "e", "a b c d e f"},
		{"a: a; b: 1;", "a: a | 1; b: 1;", "a", "a"},
		{"a: a; b: 1;", "a: a; b: 2;", "b", "b"},
		// By lines of before alone, or of now alone.
		{"a: b; b: 1;", "a: 1; b: 2;", "a b", "a b"},
		{"a: 1; b: c; c: 1;", "a: b; b: c; c: 1;", "a", "a"},
		{"a: b; b: c; c: 1; d: a;", "a: b; b: 1; c: 2; d: a;", "b c", "a b c d"},
		// Names that are no node's: in both, before, now.
		{"a: lost;", "a: lost;", "", ""},
		{"a: lost; b: a; c: 1;", "a: lost; b: a; c: 2;", "c", "c"},
		{"a: lost; b: a; c: 1;", "a: lost; b: a; c: 1; lost: 1;", "lost", "a b lost"},
		{"a: lost; b: a; c: 1; lost: 1;", "a: lost; b: a; c: 1;", "lost", "a b"},
		{"a: b; b: c; c: d;", "a: b; b: c;", "c", "a b"},
		{"a: 1; b: 1; c: 1;", "b: 1;", "a c", ""},
	} {
		old, now := config(t, c.old), config(t, c.now)
		for range 2 {
			is(t, "names of "+c.old+" then "+c.now, dirty.Names(old, now), c.names)
			is(t, "names of "+c.now+" then "+c.old, dirty.Names(now, old), c.names)
			is(t, "nodes of "+c.old+" then "+c.now, dirty.Nodes(old, now), c.nodes)
			slices.Reverse(now)
		}
	}
}

// 27.1: each field of an expression, wherever it lies, tells two definitions apart.
func TestEachField(t *testing.T) {
	x := api.Expr{Op: api.OpStruct, N: 1, Text: "t", Path: []string{"p", "q"}, Open: true, Pairs: []api.Pair{{Name: "f", E: number(1)}, {Name: "g", E: ref("b")}}, Kids: []api.Expr{number(2), number(3)}}
	for i, change := range []func(x *api.Expr){
		func(x *api.Expr) { x.Op = api.OpMeet },
		func(x *api.Expr) { x.N = 2 },
		func(x *api.Expr) { x.Text = "" },
		func(x *api.Expr) { x.Path = []string{"p"} },
		func(x *api.Expr) { x.Path = []string{"q", "p"} },
		func(x *api.Expr) { x.Open = false },
		func(x *api.Expr) { x.Pairs = x.Pairs[:1] },
		func(x *api.Expr) { x.Pairs = []api.Pair{{Name: "f", E: number(1)}, {Name: "h", E: ref("b")}} },
		func(x *api.Expr) { x.Pairs = []api.Pair{{Name: "f", E: number(1)}, {Name: "g", E: ref("c")}} },
		func(x *api.Expr) { x.Kids = nil },
		func(x *api.Expr) { x.Kids = []api.Expr{number(3), number(2)} },
	} {
		for _, in := range []func(x api.Expr) api.Node{
			func(x api.Expr) api.Node { return node("a", x) },
			func(x api.Expr) api.Node { return node("a", number(1), x) },
			func(x api.Expr) api.Node { return node("a", kids(api.OpMeet, number(1), kids(api.OpJoin, x, x))) },
			func(x api.Expr) api.Node {
				return node("a", api.Expr{Op: api.OpStruct, Pairs: []api.Pair{{Name: "f", E: x}}})
			},
		} {
			y := x
			change(&y)
			is(t, "change "+strconv.Itoa(i), dirty.Names([]api.Node{in(x)}, []api.Node{in(y)}), "a")
			is(t, "without change "+strconv.Itoa(i), dirty.Names([]api.Node{in(y)}, []api.Node{in(y)}), "")
		}
	}
	// No list and one of nothing are the same.
	y := x
	y.Path, x.Path = nil, []string{}
	is(t, "an empty path", dirty.Names([]api.Node{node("a", x)}, []api.Node{node("a", y)}), "")
	is(t, "no definitions", dirty.Names([]api.Node{{Name: "a"}}, []api.Node{{Name: "a", Defs: []api.Expr{}}}), "")
	is(t, "no node", dirty.Nodes(nil, []api.Node{}), "")
	// What lies behind a list's length is not looked at.
	l := []api.Expr{number(1), number(2)}
	is(t, "behind the length", dirty.Names([]api.Node{node("a", l[:1]...)}, []api.Node{node("a", number(1))}), "")
}

// R1: nodes and files that are of no configuration: names that are none, or come more often, expressions that may not be, or are very deep.
func TestAnything(t *testing.T) {
	deep := number(1)
	for range 10000 {
		deep = kids(api.OpAdd, deep)
	}
	odd := []api.Node{{}, {Name: "a"}, {Name: "a", Defs: []api.Expr{{}}}, node("b", ref("a"), ref(), ref("")), node("a", ref("\xff")), {Name: "\xff", Res: true}, node("", api.Expr{Op: -1, Kids: []api.Expr{ref("b")}}), node("deep", deep), node("b", deep, deep)}
	for i := range odd {
		for j := range odd {
			dirty.Names(odd[i:], odd[:j])
			for _, s := range dirty.Nodes(odd[:i], odd[j:]) {
				if !slices.ContainsFunc(odd[j:], func(n api.Node) bool { return n.Name == s }) {
					t.Errorf("%q is no node of now", s)
				}
			}
		}
	}
	is(t, "deep ones", dirty.Names([]api.Node{node("a", deep)}, []api.Node{node("a", deep)}), "")
	twice := []api.Source{{Name: "a", Text: "1"}, {Name: "a", Text: "2"}, {}, {Name: "\xff"}, {}}
	for i := range twice {
		dirty.Files(twice[i:], twice[:i])
		dirty.Files(twice[:i], twice)
	}
}

// R5: what is handed in stays as it was, and what is told is memory of its own.
func TestShares(t *testing.T) {
	old, now := config(t, "a: b; b: {x: c.y;}; c: 1;"), config(t, "a: b; b: {x: c.y; z: 1;}; c: 2;")
	was, is := said(old), said(now)
	x, y := dirty.Names(old, now), dirty.Nodes(old, now)
	x[0], y[0] = "z", "z"
	f, g := files("b=1\na=1"), files("a=2\nc=1")
	z := dirty.Files(f, g)
	z[0] = "z"
	if said(old) != was || said(now) != is || f[0].Name != "b" || g[0].Name != "a" || g[1].Text != "1" {
		t.Error("what was handed in is another one")
	}
	if words(dirty.Names(old, now)) != "b c" || words(dirty.Nodes(old, now)) != "a b c" || words(dirty.Files(f, g)) != "a b c" {
		t.Error("what is told hangs on what was told ahead")
	}
}
