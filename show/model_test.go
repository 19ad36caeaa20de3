package show_test

import (
	"fmt"
	"slices"
	"strconv"
	"strings"

	"treillage/api"
)

// op, with, number, text, ref, record, open, pair and kids are short for what expressions are made of; kinds and operations are written as numbers.
func op(o int) api.Expr                     { return api.Expr{Op: o} }
func with(o, n int) api.Expr                { return api.Expr{Op: o, N: n} }
func number(n int) api.Expr                 { return with(1, n) }
func text(s string) api.Expr                { return api.Expr{Op: 2, Text: s} }
func ref(p ...string) api.Expr              { return api.Expr{Op: 9, Path: p} }
func record(l ...api.Pair) api.Expr         { return api.Expr{Op: 10, Pairs: l} }
func open(l ...api.Pair) api.Expr           { return api.Expr{Op: 10, Pairs: l, Open: true} }
func pair(name string, e api.Expr) api.Pair { return api.Pair{Name: name, E: e} }
func kids(o int, l ...api.Expr) api.Expr    { return api.Expr{Op: o, Kids: l} }
func many(n int, e api.Expr) []api.Expr     { return slices.Repeat([]api.Expr{e}, n) }

// names are n names that rise.
func names(n int) []string {
	var l []string
	for i := range n {
		l = append(l, fmt.Sprintf("n%02d", i))
	}
	return l
}

// pairs are n pairs of a struct.
func pairs(n int, e api.Expr) []api.Pair {
	var l []api.Pair
	for _, s := range names(n) {
		l = append(l, pair(s, e))
	}
	return l
}

// brief is the begin of what is told, which may be great.
func brief(x any) string {
	s := fmt.Sprintf("%+v", x)
	return s[:min(len(s), 300)]
}

// sign is what stands between an operation's Kids.
func sign(o int) string { return map[int]string{11: "&", 12: "|", 13: "+", 14: "-", 15: "*"}[o] }

// brackets are the signs of those operations that stand in brackets as an operation's Kid at a place, in the chapter's words.
func brackets(o, at int) string {
	switch {
	case o == 12:
		return "|"
	case o == 11:
		return "|&"
	case o == 15 && at == 0:
		return "|&+-"
	case o == 15:
		return "|&+-*"
	case at == 0:
		return "|&"
	}
	return "|&+-"
}

// model is the text of an expression that may be, in the chapter's words.
func model(e api.Expr) string {
	if e.Op < 11 {
		return unitModel(e)
	}
	s := ""
	for i, k := range e.Kids {
		if i > 0 {
			s += " " + sign(e.Op) + " "
		}
		if k.Op > 10 && strings.Contains(brackets(e.Op, i), sign(k.Op)) {
			s += "(" + model(k) + ")"
		} else {
			s += model(k)
		}
	}
	return s
}

// unitModel is likewise of one that has no Kids.
func unitModel(e api.Expr) string {
	switch e.Op {
	case 1:
		return strconv.Itoa(e.N)
	case 2:
		return quoted(e.Text)
	case 3:
		return strconv.FormatBool(e.N == 1)
	case 4:
		return map[int]string{1: "bool", 2: "int", 3: "string", 5: "any"}[e.N]
	case 5:
		return "none"
	case 6:
		return "computed"
	case 7:
		return ">=" + strconv.Itoa(e.N)
	case 8:
		return "<=" + strconv.Itoa(e.N)
	case 9:
		return strings.Join(e.Path, ".")
	}
	var l []string
	for _, p := range e.Pairs {
		l = append(l, p.Name+": "+model(p.E)+";")
	}
	if e.Open {
		l = append(l, "...")
	}
	return "{" + strings.Join(l, " ") + "}"
}

// quoted is the token of a text.
func quoted(s string) string {
	var b strings.Builder
	for _, c := range []byte(s) {
		switch {
		case c == '"' || c == '\\':
			b.WriteString("\\" + string(rune(c)))
		case c == '\n':
			b.WriteString("\\n")
		case c < 32 || c > 126:
			fmt.Fprintf(&b, "\\x%02x", c)
		default:
			b.WriteByte(c)
		}
	}
	return `"` + b.String() + `"`
}

// declModel is the text of a definition that may be.
func declModel(d api.Decl) string {
	s := d.Name + ": " + model(d.E) + ";"
	if d.Res {
		return "resource " + s
	}
	return s
}

// dice are numbers that have no order to be seen.
type dice uint32

// roll is a number from 0 up to below n.
func (d *dice) roll(n int) int {
	*d = *d*1664525 + 1013904223
	return int(uint32(*d)>>8) % n
}

// rolled is an expression that may be, at most so deep.
func rolled(d *dice, depth int) api.Expr {
	e := op(1 + d.roll(9))
	if depth > 1 && d.roll(4) > 0 {
		e = op(10 + d.roll(6))
	}
	switch e.Op {
	case 5, 6:
	case 1, 7, 8:
		e.N = []int{0, 1, -1, 42, -7, 1 << 53, -1 << 53}[d.roll(7)]
	case 2:
		e.Text = []string{"", "a", "\"\n\\\x00\xff", "a: 1;", "# (", "\t\x7f~ "}[d.roll(6)]
	case 3:
		e.N = d.roll(2)
	case 4:
		e.N = []int{1, 2, 3, 5}[d.roll(4)]
	case 9:
		for range 1 + d.roll(3) {
			e.Path = append(e.Path, string("abcdz"[d.roll(5)]))
		}
	case 10:
		for _, s := range []string{"a", "a0", "b", "inty"} {
			if depth > 1 && d.roll(2) == 0 {
				e.Pairs = append(e.Pairs, pair(s, rolled(d, depth-1)))
			}
		}
		e.Open = d.roll(2) == 0
	default:
		for n := 2 + d.roll(3); len(e.Kids) < 2 || e.Op < 13 && len(e.Kids) < n; {
			e.Kids = append(e.Kids, rolled(d, depth-1))
		}
	}
	return e
}

// rolledDecl is a definition that may be.
func rolledDecl(d *dice, depth int) api.Decl {
	return api.Decl{Name: []string{"a", "net", "x_9"}[d.roll(3)], Res: d.roll(2) == 0, E: rolled(d, depth)}
}

// spoilt is an expression in which something is turned, somewhere; it may be right all the same.
func spoilt(d *dice, e api.Expr) api.Expr {
	if at := d.roll(2 + len(e.Kids) + len(e.Pairs)); at >= 2+len(e.Kids) {
		e.Pairs = slices.Clone(e.Pairs)
		p := &e.Pairs[at-2-len(e.Kids)]
		p.E = spoilt(d, p.E)
		return e
	} else if at >= 2 {
		e.Kids = slices.Clone(e.Kids)
		e.Kids[at-2] = spoilt(d, e.Kids[at-2])
		return e
	}
	switch d.roll(8) {
	case 0:
		e.Op = d.roll(20) - 2
	case 1:
		e.N = []int{1<<53 + 1, -1<<53 - 1, 4, -1, 2}[d.roll(5)]
	case 2:
		e.Text = strings.Repeat("x", 255+d.roll(3))
	case 3:
		e.Path = append(slices.Clone(e.Path), []string{"a", "", "true", "A"}[d.roll(4)])
	case 4:
		e.Pairs = append(slices.Clone(e.Pairs), pair([]string{"a", "z", "", "int"}[d.roll(4)], number(1)))
	case 5:
		e.Kids = append(slices.Clone(e.Kids), number(1))
	case 6:
		e.Open = !e.Open
	case 7:
		e.Kids = e.Kids[:len(e.Kids)/2]
	}
	return e
}

// nested is an expression within n others, which take turns, at their first, last or only part.
func nested(n int, e api.Expr) api.Expr {
	for i := range n {
		switch i % 5 {
		case 0:
			e = kids(13, e, ref("a"))
		case 1:
			e = record(pair("a", number(1)), pair("b", e))
		case 2:
			e = kids(15, number(2), e)
		case 3:
			e = kids(11, op(5), op(6), e)
		case 4:
			e = kids(12, e, op(6))
		}
	}
	return e
}

// wrongs are expressions that are not right, each but for one thing.
func wrongs() []api.Expr {
	one := number(1)
	l := []api.Expr{
		{}, op(16), op(-1), op(1 << 62), op(-1 << 63), op(257),
		number(1<<53 + 1), number(-1<<53 - 1), number(1<<63 - 1), number(-1 << 63), with(7, 1<<53+1), with(7, -1<<53-1), with(8, 1<<53+1), with(8, -1<<53-1),
		text(strings.Repeat("x", 257)), with(3, 2), with(3, -1), with(3, -1<<63), with(4, 0), with(4, 4), with(4, 6), with(4, -1), with(4, 1<<62), with(5, 1), with(6, 1),
		ref(), ref(""), ref("a", ""), ref("a.b"), ref("A"), ref("a", "true"), ref("resource"), ref(names(17)...), ref(strings.Repeat("a", 17)), ref("9"),
		record(pair("", one)), record(pair("A", one)), record(pair("true", one)), record(pair("a.b", one)), record(pair("a", one), pair("a", one)), record(pair("b", one), pair("a", one)), record(pairs(33, one)...), open(pairs(33, one)...), record(pair("a", op(0))),
		{Op: 1, Open: true}, {Op: 2, N: 1}, {Op: 9, Path: []string{"a"}, Text: "a"}, {Op: 10, N: 1}, {Op: 10, Kids: many(2, one)}, {Op: 11, Kids: many(2, one), Open: true}, {Op: 1, Kids: many(2, one)}, {Op: 5, Path: []string{"a"}}, {Op: 3, Pairs: pairs(1, one)},
	}
	for o := 11; o <= 15; o++ {
		l = append(l, op(o), kids(o, one), kids(o, many(33, one)...), kids(o, one, op(0)), kids(o, op(16), one))
	}
	for o := 13; o <= 15; o++ {
		l = append(l, kids(o, many(3, one)...))
	}
	return l
}
