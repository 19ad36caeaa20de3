package gather_test

import (
	"fmt"
	"slices"
	"strings"
	"testing"

	"treillage/api"
	"treillage/expr"
	"treillage/gather"
	"treillage/name"
	"treillage/parse"
)

// node is short for a node with definitions.
func node(name string, defs ...api.Expr) api.Node { return api.Node{Name: name, Defs: defs} }

// one is a definition that may be.
func one() api.Expr { return api.Expr{Op: api.OpInt, N: 1} }

// deep is an expression of a depth.
func deep(n int) api.Expr {
	e := one()
	for range n - 1 {
		e = api.Expr{Op: api.OpAdd, Kids: []api.Expr{e, one()}}
	}
	return e
}

// nodes are n nodes, their names rising.
func nodes(n int) []api.Node {
	var l []api.Node
	for i := range n {
		l = append(l, node(fmt.Sprintf("n%06d", i), one()))
	}
	return l
}

// 16.2: Find of each node, of none, of a name that comes twice, in nodes that are right and in such as are not.
func TestFind(t *testing.T) {
	for _, n := range []int{0, 1, 2, 3, 256, 257, 1000} {
		l := nodes(n)
		for i := range l {
			if at := gather.Find(l, l[i].Name); at != i {
				t.Errorf("Find of the node %d of %d: %d", i, n, at)
			}
		}
		for _, s := range []string{"", "a", "z", "n", "n0", "n0000000", "n999999", "int", "N000000", "n000000 ", strings.Repeat("n", 1<<16)} {
			if at := gather.Find(l, s); at != -1 {
				t.Errorf("Find(%.20q) in %d: %d", s, n, at)
			}
		}
	}
	if at := gather.Find(nil, ""); at != -1 {
		t.Errorf("Find in nothing: %d", at)
	}
	if at := gather.Find(nodes(2)[:1], "n000001"); at != -1 {
		t.Errorf("Find behind the end: %d", at)
	}
	l := []api.Node{node("b"), node("a", one()), node("c"), node("a"), node(""), node("b"), node("int"), node("A"), node(""), node("c")}
	for s, want := range map[string]int{"a": 1, "b": 0, "c": 2, "": 4, "int": 6, "A": 7, "d": -1} {
		if at := gather.Find(l, s); at != want {
			t.Errorf("Find(%q): %d, not %d", s, at, want)
		}
	}
}

// right fails, if nodes are not told to be right, or wrong, whether they are resources or not.
func right(t *testing.T, want bool, l ...api.Node) {
	t.Helper()
	for i := range 3 {
		c := slices.Clone(l)
		for j := range c {
			c[j].Res = i == 1 || i == 2 && j%2 == 0
		}
		if gather.Right(c) != want {
			t.Errorf("Right(%s): %v", brief(c), !want)
		}
	}
}

// 16.2: nodes whose names are none, do not rise, come twice; as many as there may be, and more.
func TestRightNames(t *testing.T) {
	right(t, true)
	right(t, true, []api.Node{}...)
	right(t, true, node("a", one()))
	for _, s := range []string{"a", "z", "a_", "a0", "integer", "abcdefghijklmnop"} {
		right(t, true, node(s, one()))
		right(t, true, node("a", one()), node("b"+s[1:], one()), node("c", one()))
	}
	for _, s := range []string{"", "A", "a.b", "9", "_", "b c", "é", "\xff", "b\n", "bbcdefghijklmnopq", "any", "bool", "computed", "false", "int", "none", "resource", "string", "true", strings.Repeat("b", 1<<16)} {
		right(t, false, node(s, one()))
		right(t, false, node("a", one()), node(s, one()))
		right(t, false, node(s, one()), node("z", one()))
		right(t, false, node("a", one()), node(s, one()), node("z", one()))
	}
	for s, want := range map[string]bool{"a b": true, "b a": false, "a a": false, "a b b": false, "a b a": false, "a c b": false, "b a c": false, "a aa b": true, "aa a": false, "a a0 a_ aa": true, "a_ a0": false, "a9 a10": false, "a b c d": true, "a b d c": false} {
		var l []api.Node
		for _, s := range strings.Fields(s) {
			l = append(l, node(s, one()))
		}
		right(t, want, l...)
	}
	for _, n := range []int{1, 2, 255, 256, 257, 258, 1000, 1 << 16} {
		right(t, n <= 256, nodes(n)...)
		for _, at := range []int{0, n / 2, n - 1} {
			l := nodes(n)
			l[at].Name = []string{"true", l[max(0, at-1)].Name}[min(at, 1)]
			right(t, false, l...)
		}
	}
}

// 16.2: nodes without definitions, with such as may not be, at each place, and with such as are too deep.
func TestRightDefs(t *testing.T) {
	wrong := []api.Expr{{}, {Op: 16}, {Op: api.OpInt, N: api.MaxInt + 1}, {Op: api.OpNone, N: 1}, {Op: api.OpKind, N: api.KStruct}, {Op: api.OpRef}, {Op: api.OpRef, Path: []string{"int"}}, {Op: api.OpMeet, Kids: []api.Expr{one()}}, {Op: api.OpText, Text: strings.Repeat("x", api.MaxText+1)}, {Op: api.OpStruct, Pairs: []api.Pair{{Name: "a", E: api.Expr{}}}}, deep(17), deep(100)}
	right(t, false, node("a"))
	right(t, false, api.Node{Name: "a", Defs: []api.Expr{}})
	right(t, false, api.Node{Name: "a", Defs: []api.Expr{one()}[:0]})
	right(t, true, node("a", deep(16)))
	right(t, true, node("a", one(), deep(16), deep(2), one()))
	right(t, true, node("a", slices.Repeat([]api.Expr{one()}, 1000)...))
	for _, n := range []int{1, 2, 3, 256} {
		for _, at := range []int{0, n / 2, n - 1} {
			l := nodes(n)
			l[at].Defs = nil
			right(t, false, l...)
			for _, e := range wrong {
				for _, defs := range [][]api.Expr{{e}, {e, one()}, {one(), e}, {one(), e, one()}} {
					l[at].Defs = defs
					right(t, false, l...)
				}
				l[at].Defs = []api.Expr{one(), e}[:1]
				right(t, true, l...)
			}
		}
	}
}

// dice are numbers that have no order to be seen.
type dice uint32

// roll is a number from 0 up to below n.
func (d *dice) roll(n int) int {
	*d = *d*1664525 + 1013904223
	return int(uint32(*d)>>8) % n
}

// rolled are files of some definitions, or of any bytes; their names mostly rise.
func rolled(d *dice) []api.Source {
	var l []api.Source
	for i := range d.roll(5) {
		s := fmt.Sprintf("f%d", i+d.roll(20)/18-d.roll(20)/18)
		if d.roll(30) == 0 {
			s = []string{"", "int", "A", "f"}[d.roll(4)]
		}
		var b strings.Builder
		for range d.roll(6) {
			b.WriteString([]string{"", "", "resource "}[d.roll(3)] + []string{"a", "b", "c", "net", "a0", "zz"}[d.roll(6)] + ": " + []string{"1", "a | b", "{x: 1; ...}", "net.n + 2", "computed & int", "(1 | 2) & a"}[d.roll(6)] + ";\n")
		}
		if d.roll(20) == 0 {
			b.WriteString([]string{"x: ;", "\xff", "a: 007;", "true: 1;", "a", "9007199254740993", "a: {b: 1; b: 1;};"}[d.roll(7)])
		}
		l = append(l, source(s, b.String()))
	}
	return l
}

// model tells by the chapter's words what files are refused for, or else their nodes, a line each.
func model(l []api.Source) (want string, file, at int, e api.Errno) {
	for i, s := range l {
		if strings.Trim(s.Name, "f0123456789") != "" || !strings.HasPrefix(s.Name, "f") || i > 0 && s.Name <= l[i-1].Name {
			return "", i, 0, api.ErrArg
		}
	}
	var all []api.Decl
	for i, s := range l {
		decls, at, e := parse.Parse(s.Text)
		if e != api.OK {
			return "", i, at, e
		}
		all = append(all, decls...)
	}
	for _, s := range []string{"a", "a0", "b", "c", "net", "zz"} {
		n := node(s)
		for _, d := range all {
			if d.Name == s {
				n.Res, n.Defs = n.Res || d.Res, append(n.Defs, d.E)
			}
		}
		if len(n.Defs) > 0 {
			want += spelt([]api.Node{n})
		}
	}
	return want, 0, 0, api.OK
}

// 16.1, 16.3: rolled files, held against the chapter's words; what is made of them is right, and the same each time.
func TestRolled(t *testing.T) {
	seen := map[api.Errno]int{}
	for i := range 20000 {
		l := rolled(new(dice(i)))
		got, file, at, e := gather.Nodes(l)
		want, wantFile, wantAt, wantE := model(l)
		if spelt(got) != want || file != wantFile || at != wantAt || e != wantE || !gather.Right(got) {
			t.Fatalf("Nodes(%q): %q %d %d %d, not %q %d %d %d", l, spelt(got), file, at, e, want, wantFile, wantAt, wantE)
		}
		if again, _, _, _ := gather.Nodes(l); spelt(again) != want {
			t.Fatalf("Nodes(%q): %q, and again %q", l, want, spelt(again))
		}
		seen[e]++
	}
	if seen[api.OK] < 5000 || seen[api.ErrArg] < 1000 || seen[api.ErrSyntax] < 200 || seen[api.ErrToken] < 100 || seen[api.ErrThere] < 50 {
		t.Errorf("too few of some kind: %v", seen)
	}
}

// modelRight tells by the chapter's words whether nodes are right, as few as the tests have.
func modelRight(l []api.Node) bool {
	for i, n := range l {
		if !name.Right(n.Name) || i > 0 && n.Name <= l[i-1].Name || len(n.Defs) == 0 {
			return false
		}
		for _, e := range n.Defs {
			if expr.Check(e) != api.OK {
				return false
			}
		}
	}
	return true
}

// R1: any names and bytes as files, and any nodes.
func TestAny(t *testing.T) {
	seen := map[bool]int{}
	for i := range 5000 {
		d := new(dice(i))
		var l []api.Source
		var m []api.Node
		for range d.roll(40) {
			s, text := make([]byte, d.roll(4)), make([]byte, d.roll(12))
			for _, b := range [][]byte{s, text} {
				for j := range b {
					b[j] = []byte("ab:;1 \x00\xff")[d.roll(8)]
				}
			}
			l = append(l, source(string(s), string(text)))
			m = append(m, node(string(s), slices.Repeat([]api.Expr{{Op: d.roll(18) - 1, N: d.roll(5) - 1, Kids: make([]api.Expr, d.roll(3))}}, d.roll(3))...))
		}
		if got, file, at, e := gather.Nodes(l); e != api.OK && len(got) != 0 || e == api.OK && (file != 0 || at != 0) || file > 32 || !gather.Right(got) {
			t.Fatalf("Nodes(%q): %s %d %d %d", l, brief(got), file, at, e)
		}
		if got := gather.Right(m); got != modelRight(m) {
			t.Fatalf("Right(%s): %v", brief(m), got)
		}
		m = slices.DeleteFunc(m, func(n api.Node) bool { return !modelRight([]api.Node{n}) })
		slices.SortStableFunc(m, func(a, b api.Node) int { return strings.Compare(a.Name, b.Name) })
		if got := gather.Right(m); got != modelRight(m) {
			t.Fatalf("Right(%s): %v", brief(m), got)
		}
		seen[len(m) > 0 && gather.Right(m)]++
		if at := gather.Find(m, "a"); at != slices.IndexFunc(m, func(n api.Node) bool { return n.Name == "a" }) {
			t.Fatalf("Find in %s: %d", brief(m), at)
		}
	}
	if seen[true] < 500 || seen[false] < 500 {
		t.Errorf("too few of some kind: %v", seen)
	}
	gather.Nodes([]api.Source{source("a", strings.Repeat("\xff", 1<<20)), source("b", strings.Repeat("x:1;", 1<<20))})
}
