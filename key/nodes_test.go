package key_test

import (
	"fmt"
	"slices"
	"strconv"
	"strings"

	"treillage/api"
	"treillage/expr"
	"treillage/parse"
	"treillage/show"
)

// op, with, number, text, ref, record, open, pair and kids are short for what expressions are made of; kinds and operations are written as numbers.
func op(o int) api.Expr                     { return api.Expr{Op: o} }
func with(o, n int) api.Expr                { return api.Expr{Op: o, N: n} }
func number(n int) api.Expr                 { return with(1, n) }
func text(s string) api.Expr                { return api.Expr{Op: 2, Text: s} }
func ref(p ...string) api.Expr              { return api.Expr{Op: 9, Path: p} }
func record(l ...api.Pair) api.Expr         { return api.Expr{Op: 10, Pairs: l} }
func open(l ...api.Pair) api.Expr           { return api.Expr{Op: 10, Pairs: l, Open: true} }
func pair(name string, e api.Expr) api.Pair { return api.Pair{Name: name, E: e} }
func kids(o int, l ...api.Expr) api.Expr    { return api.Expr{Op: o, Kids: l} }
func many(n int, e api.Expr) []api.Expr     { return slices.Repeat([]api.Expr{e}, n) }

// node is a node that is no resource.
func node(name string, l ...api.Expr) api.Node { return api.Node{Name: name, Defs: l} }

// nested is an expression that is so deep.
func nested(depth int) api.Expr {
	e := number(1)
	for range depth - 1 {
		e = kids(13, number(1), e)
	}
	return e
}

// brief is the begin of what is told, which may be great.
func brief(x any) string {
	s := fmt.Sprintf("%+v", x)
	return s[:min(len(s), 300)]
}

// begin is the begin of a text.
func begin(s string) string { return strconv.Quote(s[:min(len(s), 120)]) }

// same tells whether two nodes are the same.
func same(a, b api.Node) bool {
	return a.Name == b.Name && a.Res == b.Res && slices.EqualFunc(a.Defs, b.Defs, expr.Same)
}

// model is the key of a node and some fuel that have one, by the chapter's words.
func model(n api.Node, fuel int) string {
	var s strings.Builder
	fmt.Fprintf(&s, "%s\n%d\n", n.Name, fuel)
	for _, d := range n.Defs {
		text, e := show.Expr(d)
		if e != api.OK {
			panic("this one may not be")
		}
		s.WriteString(text + "\n")
	}
	return s.String()
}

// simple tells whether a text is a name.
func simple(s string) bool {
	for i, c := range []byte(s) {
		if (c < 'a' || c > 'z') && (i == 0 || c != '_' && (c < '0' || c > '9')) {
			return false
		}
	}
	return s != "" && len(s) <= 16 && !slices.Contains([]string{"any", "bool", "computed", "false", "int", "none", "resource", "string", "true"}, s)
}

// readModel is what a text is the key of, by the chapter's words.
func readModel(s string) (n api.Node, fuel int, ok bool) {
	l := strings.Split(s, "\n")
	if len(l) < 4 || l[len(l)-1] != "" || !simple(l[0]) {
		return api.Node{}, 0, false
	}
	fuel, fault := strconv.Atoi(l[1])
	if fault != nil || strconv.Itoa(fuel) != l[1] || fuel < 1 || fuel > 1<<20 {
		return api.Node{}, 0, false
	}
	n.Name = l[0]
	for _, line := range l[2 : len(l)-1] {
		x, _, e := parse.Expr(line)
		if again, f := show.Expr(x); e != api.OK || f != api.OK || again != line || len(line) > 4096 {
			return api.Node{}, 0, false
		}
		n.Defs = append(n.Defs, x)
	}
	return n, fuel, true
}

// dice are numbers that have no order to be seen.
type dice uint32

// roll is a number from 0 up to below n.
func (d *dice) roll(n int) int {
	*d = *d*1664525 + 1013904223
	return int(uint32(*d)>>8) % n
}

// rolled is an expression that may be, at most so deep.
func rolled(d *dice, depth int) api.Expr {
	e := op(1 + d.roll(9))
	if depth > 1 && d.roll(4) > 0 {
		e = op(10 + d.roll(6))
	}
	switch e.Op {
	case 5, 6:
	case 1, 7, 8:
		e.N = []int{0, 1, -1, 42, -7, 1 << 53, -1 << 53}[d.roll(7)]
	case 2:
		e.Text = []string{"", "a", "\"\n\\\x00\xff", "a\n9\n1\n", "# (", "\t\x7f~\r "}[d.roll(6)]
	case 3:
		e.N = d.roll(2)
	case 4:
		e.N = []int{1, 2, 3, 5}[d.roll(4)]
	case 9:
		for range 1 + d.roll(3) {
			e.Path = append(e.Path, string("abcdz"[d.roll(5)]))
		}
	case 10:
		for _, s := range []string{"a", "a0", "b", "inty"} {
			if depth > 1 && d.roll(2) == 0 {
				e.Pairs = append(e.Pairs, pair(s, rolled(d, depth-1)))
			}
		}
		e.Open = d.roll(2) == 0
	default:
		for n := 2 + d.roll(3); len(e.Kids) < 2 || e.Op < 13 && len(e.Kids) < n; {
			e.Kids = append(e.Kids, rolled(d, depth-1))
		}
	}
	return e
}

// rolledNode is a node that has a key, and a fuel.
func rolledNode(d *dice) (api.Node, int) {
	n := node([]string{"a", "net", "x_9", "inty", "a234567890123456"}[d.roll(5)])
	for range 1 + d.roll(4) {
		n.Defs = append(n.Defs, rolled(d, 1+d.roll(4)))
	}
	return n, []int{1, 2, 9, 10, 99, 100, 1<<20 - 1, 1 << 20}[d.roll(8)]
}

// refused are expressions that may not be, as they are not right or too deep.
func refused() []api.Expr {
	return []api.Expr{
		{}, op(-1), op(16), op(1 << 40), with(1, 1<<53+1), with(7, -1<<53-1), with(3, 2), with(4, 4), with(4, 0), with(5, 1), {Op: 1, Text: "a"}, {Op: 6, Open: true}, text(strings.Repeat("x", 257)), ref(), ref(""), ref("a", "int"), ref("a\n9"), ref(strings.Split(strings.Repeat("a.", 16)+"a", ".")...), kids(11), kids(12, number(1)), kids(13, number(1)), kids(15, many(3, number(1))...), kids(12, many(33, number(1))...),
		record(pair("b", number(1)), pair("a", number(1))), record(pair("a", number(1)), pair("a", number(1))), record(pair("", number(1))), record(pair("a", op(0))), kids(11, number(1), kids(12, number(1), op(0))), nested(17), nested(18), nested(5000), record(pair("a", nested(16))), kids(14, nested(17), op(0)),
	}
}

// written are nodes and fuels with their keys, written out.
func written() map[string]struct {
	n    api.Node
	fuel int
} {
	type asked = struct {
		n    api.Node
		fuel int
	}
	return map[string]asked{
		"a\n9\n1\nint\n":                 {node("a", number(1), with(4, 2)), 9}, // the chapter's example
		"a\n9\nint\n1\n":                 {node("a", with(4, 2), number(1)), 9},
		"a\n9\n1\n":                      {node("a", number(1)), 9},
		"a\n9\n1\n1\n":                   {node("a", number(1), number(1)), 9},
		"b\n9\n1\n":                      {node("b", number(1)), 9},
		"a\n91\n1\n":                     {node("a", number(1)), 91},
		"a\n1\n9\n":                      {node("a", number(9)), 1},
		"a\n1\na\n":                      {node("a", ref("a")), 1},
		"a9\n1\n1\n":                     {node("a9", number(1)), 1},
		"a\n1048576\n-1\n":               {node("a", number(-1)), 1 << 20},
		"a234567890123456\n1048575\n0\n": {node("a234567890123456", number(0)), 1<<20 - 1},
		"a\n9\n\"1\\nint\"\n":            {node("a", text("1\nint")), 9},
		"a\n9\n\"\"\n":                   {node("a", text("")), 9},
		"a\n9\n\"\\\"\\\\\\x0d#\"\n":     {node("a", text("\"\\\r#")), 9},
		"net\n100\n{n: net.n + 1; x: {}; ...}\nany\n>=-5 & <=5 | none\ncomputed\n(1 | 2) & true\n1 - (2 - 3)\n": {node("net", open(pair("n", kids(13, ref("net", "n"), number(1))), pair("x", record())), with(4, 5), kids(12, kids(11, with(7, -5), with(8, 5)), op(5)), op(6), kids(11, kids(12, number(1), number(2)), with(3, 1)), kids(14, number(1), kids(14, number(2), number(3)))), 100},
	}
}
