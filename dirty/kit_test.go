package dirty_test

import (
	"slices"
	"strings"
	"testing"

	"treillage/api"
	"treillage/gather"
	"treillage/show"
)

// config are the nodes of one file.
func config(t *testing.T, text string) []api.Node {
	t.Helper()
	nodes, _, at, e := gather.Nodes([]api.Source{{Name: "a", Text: text}})
	if e != api.OK {
		t.Fatalf("Nodes(%q): %d %d", text, at, e)
	}
	return nodes
}

// files are those of a text: each a name, a sign = and what stands in it, up to the next line feed.
func files(text string) []api.Source {
	var l []api.Source
	for _, s := range strings.Split(text, "\n") {
		if name, text, ok := strings.Cut(s, "="); ok {
			l = append(l, api.Source{Name: name, Text: text})
		}
	}
	return l
}

// words are names as a text.
func words(l []string) string { return strings.Join(l, " ") }

// is fails, if not just these names are told.
func is(t *testing.T, what string, got []string, want string) {
	t.Helper()
	if words(got) != want || len(got) != len(strings.Fields(want)) {
		t.Errorf("%s: %q, not %s", what, got, want)
	}
}

// ref, number, kids and node are short for expressions and nodes.
func ref(path ...string) api.Expr              { return api.Expr{Op: api.OpRef, Path: path} }
func number(n int) api.Expr                    { return api.Expr{Op: api.OpInt, N: n} }
func kids(op int, l ...api.Expr) api.Expr      { return api.Expr{Op: op, Kids: l} }
func node(name string, l ...api.Expr) api.Node { return api.Node{Name: name, Defs: l} }

// dice are numbers that have no order to be seen.
type dice uint32

// roll is a number from 0 up to below n.
func (d *dice) roll(n int) int {
	*d = *d*1664525 + 1013904223
	return int(uint32(*d)>>8) % n
}

// mixed lays a list into another order.
func mixed[T any](d *dice, l []T) []T {
	l = slices.Clone(l)
	for i := range l {
		j := d.roll(i + 1)
		l[i], l[j] = l[j], l[i]
	}
	return l
}

// names are those of rolled nodes; the last one is never there.
var names = []string{"a", "b", "c", "d", "net", "web", "lost"}

// rolledExpr is an expression that may be.
func rolledExpr(d *dice, deep int) api.Expr {
	if deep == 0 {
		s := names[d.roll(len(names))]
		l := []api.Expr{number(1), number(2), {Op: api.OpText, Text: "a"}, {Op: api.OpKind, N: api.KInt}, {Op: api.OpLater}, ref(s), ref(s), ref(s), ref(s, "f"), {Op: api.OpNone}}
		return l[d.roll(len(l))]
	}
	if d.roll(5) == 0 {
		return api.Expr{Op: api.OpStruct, Open: d.roll(2) == 0, Pairs: []api.Pair{{Name: "f", E: rolledExpr(d, deep-1)}, {Name: "g", E: rolledExpr(d, deep-1)}}}
	}
	op := []int{api.OpMeet, api.OpJoin, api.OpJoin, api.OpAdd, api.OpMul}[d.roll(5)]
	return kids(op, rolledExpr(d, deep-1), rolledExpr(d, deep-1))
}

// rolled are some nodes whose names are all unlike, in any order.
func rolled(d *dice) []api.Node {
	var nodes []api.Node
	for _, s := range names[:len(names)-1] {
		if d.roll(5) > 0 {
			n := node(s, rolledExpr(d, d.roll(3)))
			for range d.roll(3) {
				n.Defs = append(n.Defs, rolledExpr(d, d.roll(2)))
			}
			n.Res = d.roll(2) == 0
			nodes = append(nodes, n)
		}
	}
	return mixed(d, nodes)
}

// edited are nodes of which some are not as they were: gone, new, with other definitions, or with the same ones in another order.
func edited(d *dice, nodes []api.Node) []api.Node {
	now := slices.Clone(nodes)
	for range d.roll(3) {
		if len(now) == 0 {
			break
		}
		at := d.roll(len(now))
		n := now[at]
		n.Defs = slices.Clone(n.Defs)
		switch d.roll(6) {
		case 0:
			now = slices.Delete(slices.Clone(now), at, at+1)
			continue
		case 1:
			n.Defs = mixed(d, n.Defs)
		case 2:
			n.Defs = append(n.Defs, rolledExpr(d, 1))
		case 3:
			n.Defs = n.Defs[:max(1, len(n.Defs)-1)]
		case 4:
			n.Res = !n.Res
		default:
			n.Defs[d.roll(len(n.Defs))] = rolledExpr(d, d.roll(3))
		}
		now[at] = n
	}
	if d.roll(6) == 0 {
		s := names[d.roll(len(names)-1)]
		if !slices.ContainsFunc(now, func(n api.Node) bool { return n.Name == s }) {
			now = append(now, node(s, rolledExpr(d, 1)))
		}
	}
	return mixed(d, now)
}

// texts are a node's definitions as they are written, each on a line.
func texts(n api.Node) string {
	s := ""
	for _, e := range n.Defs {
		text, err := show.Expr(e)
		if err != api.OK {
			panic("this one may not be")
		}
		s += text + "\n"
	}
	return s
}

// said is all that nodes are, so that a change of them is seen.
func said(nodes []api.Node) string {
	s := ""
	for _, n := range nodes {
		s += n.Name + "\n" + texts(n)
	}
	return s
}
