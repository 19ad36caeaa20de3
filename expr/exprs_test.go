package expr_test

import (
	"fmt"
	"math"
	"slices"
	"strings"

	"treillage/api"
)

// op, number, text, ref, record, pair, kids and names are short for what tests are made of.
func op(o int) api.Expr                       { return api.Expr{Op: o} }
func number(n int) api.Expr                   { return api.Expr{Op: 1, N: n} }
func text(s string) api.Expr                  { return api.Expr{Op: 2, Text: s} }
func ref(p ...string) api.Expr                { return api.Expr{Op: 9, Path: p} }
func record(l ...api.Pair) api.Expr           { return api.Expr{Op: 10, Pairs: l} }
func pair(name string, e api.Expr) api.Pair   { return api.Pair{Name: name, E: e} }
func kids(o int, l ...api.Expr) api.Expr      { return api.Expr{Op: o, Kids: l} }
func many(n int, e api.Expr) []api.Expr       { return slices.Repeat([]api.Expr{e}, n) }
func withN(o, n int) api.Expr                 { return api.Expr{Op: o, N: n} }
func with(e api.Expr, l ...api.Expr) api.Expr { e.Kids = l; return e }

// names are n names that rise.
func names(n int) []string {
	var l []string
	for i := range n {
		l = append(l, fmt.Sprintf("n%02d", i))
	}
	return l
}

// pairs are n pairs of a struct.
func pairs(n int, e api.Expr) []api.Pair {
	var l []api.Pair
	for _, s := range names(n) {
		l = append(l, pair(s, e))
	}
	return l
}

// show is the begin of an expression, which may be great.
func show(e api.Expr) string {
	s := fmt.Sprint(e)
	return s[:min(len(s), 200)]
}

// nested is an expression within n others, which take turns, at their first, last or only part.
func nested(n int, e api.Expr) api.Expr {
	for i := range n {
		switch i % 5 {
		case 0:
			e = record(pair("a", number(1)), pair("b", e))
		case 1:
			e = kids(13, e, ref("a"))
		case 2:
			e = kids(11, number(1), text("x"), e)
		case 3:
			e = kids(15, op(5), e)
		case 4:
			e = kids(12, e, op(6))
		}
	}
	return e
}

// sorts are one right expression of each operation, with the fields that it names.
func sorts() []struct {
	e     api.Expr
	named string
} {
	type sort = struct {
		e     api.Expr
		named string
	}
	one := number(1)
	return []sort{
		{number(5), "N"}, {text("a"), "Text"}, {withN(3, 1), "N"}, {withN(4, 2), "N"}, {op(5), ""}, {op(6), ""}, {withN(7, 5), "N"}, {withN(8, -5), "N"},
		{ref("a", "b"), "Path"}, {record(pair("a", one)), "Pairs Open"},
		{kids(11, one, one), "Kids"}, {kids(12, one, one), "Kids"}, {kids(13, one, one), "Kids"}, {kids(14, one, one), "Kids"}, {kids(15, one, one), "Kids"},
	}
}

// turns are ways in which one field of an expression is set, whatever it was.
func turns() []struct {
	field string
	turn  func(e *api.Expr)
} {
	type turn = struct {
		field string
		turn  func(e *api.Expr)
	}
	return []turn{
		{"N", func(e *api.Expr) { e.N = 1 }}, {"N", func(e *api.Expr) { e.N = -1 }}, {"N", func(e *api.Expr) { e.N = math.MinInt }},
		{"Text", func(e *api.Expr) { e.Text = "b" }}, {"Text", func(e *api.Expr) { e.Text = "\x00" }}, {"Text", func(e *api.Expr) { e.Text = strings.Repeat("x", 257) }},
		{"Path", func(e *api.Expr) { e.Path = []string{"c"} }}, {"Path", func(e *api.Expr) { e.Path = []string{""} }},
		{"Open", func(e *api.Expr) { e.Open = true }},
		{"Pairs", func(e *api.Expr) { e.Pairs = []api.Pair{pair("c", number(2))} }}, {"Pairs", func(e *api.Expr) { e.Pairs = make([]api.Pair, 1) }},
		{"Kids", func(e *api.Expr) { e.Kids = []api.Expr{number(2), text("d")} }}, {"Kids", func(e *api.Expr) { e.Kids = make([]api.Expr, 1) }},
	}
}

// rights are expressions that are right, those at the edges among them.
func rights() []api.Expr {
	long := strings.Repeat("a", 16)
	one := number(1)
	l := []api.Expr{
		number(0), number(-7), number(1 << 53), number(-1 << 53), withN(7, 0), withN(7, 1<<53), withN(7, -1<<53), withN(8, 1<<53), withN(8, -1<<53),
		text(""), text("\x00\xff\""), text("true"), text(strings.Repeat("\xff", 256)),
		withN(3, 0), withN(3, 1), withN(4, 1), withN(4, 2), withN(4, 3), withN(4, 5), op(5), op(6),
		ref("a"), ref("a", "a"), ref("b", "a_0"), ref(names(16)...), ref(slices.Repeat([]string{long}, 16)...), ref("integer"),
		record(), record(pair("a", one)), record(pair("a", one), pair("a0", one), pair("a_", one), pair("aa", one)), record(pairs(32, one)...), record(pair("int8", record())),
		{Op: 10, Open: true}, {Op: 10, Open: true, Pairs: pairs(32, op(6))},
	}
	for o := 11; o <= 15; o++ {
		l = append(l, kids(o, one, one), kids(o, text("a"), number(2)), kids(o, kids(o, one, one), kids(o, one, one)))
	}
	for _, n := range []int{3, 31, 32} {
		l = append(l, kids(11, many(n, one)...), kids(12, many(n, record())...))
	}
	for _, s := range sorts() {
		l = append(l, s.e)
	}
	return l
}

// wrongs are expressions that are not right, each but for one thing.
func wrongs() []api.Expr {
	one := number(1)
	l := []api.Expr{
		{}, op(16), op(-1), op(math.MaxInt), op(math.MinInt), op(257),
		number(1<<53 + 1), number(-1<<53 - 1), number(math.MaxInt), number(math.MinInt), withN(7, 1<<53+1), withN(7, -1<<53-1), withN(8, 1<<53+1), withN(8, -1<<53-1),
		text(strings.Repeat("x", 257)), withN(3, 2), withN(3, -1), withN(3, 257), withN(4, 0), withN(4, 4), withN(4, 6), withN(4, -1), withN(4, 258),
		ref(), ref(""), ref("a", ""), ref("", "a"), ref("a.b"), ref("A"), ref("a", "true"), ref("any"), ref("resource", "a"), ref("a", "int", "b"), ref(names(17)...), ref(strings.Repeat("a", 17)), ref("9"),
		record(pair("", one)), record(pair("A", one)), record(pair("true", one)), record(pair("a", one), pair("none", one)), record(pair("a.b", one)), record(pair(strings.Repeat("a", 17), one)),
		record(pair("a", one), pair("a", one)), record(pair("b", one), pair("a", one)), record(pair("a", one), pair("c", one), pair("b", one)), record(pair("aa", one), pair("a_", one)), record(pairs(33, one)...), {Op: 10, Open: true, Pairs: pairs(33, one)},
		record(append(pairs(31, one), pair("n00", one))...),
	}
	for o := 11; o <= 15; o++ {
		l = append(l, op(o), kids(o, one), kids(o, many(33, one)...), kids(o, one, op(0)), kids(o, op(16), one))
	}
	for o := 13; o <= 15; o++ {
		l = append(l, kids(o, many(3, one)...))
	}
	for _, s := range sorts() {
		for _, t := range turns() {
			if e := s.e; !strings.Contains(s.named, t.field) {
				t.turn(&e)
				l = append(l, e)
			}
		}
	}
	return l
}

// dice are numbers that have no order to be seen.
type dice uint32

// roll is a number from 0 up to below n.
func (d *dice) roll(n int) int {
	*d = *d*1664525 + 1013904223
	return int(uint32(*d)>>8) % n
}

// rolled is an expression, right or not, whose operation has mostly what it names.
func rolled(d *dice, depth int) api.Expr {
	e := op(1 + d.roll(15))
	switch {
	case e.Op == 2:
		e.Text = []string{"", "a", "\xff"}[d.roll(3)]
	case e.Op == 9:
		e.Path = [][]string{{"a"}, {"b", "c"}, {"a", "b", "c"}}[d.roll(3)]
	case e.Op == 10 && depth > 0:
		for _, s := range names(d.roll(4)) {
			e.Pairs = append(e.Pairs, pair(s, rolled(d, depth-1)))
		}
		e.Open = d.roll(2) == 0
	case e.Op > 10 && depth > 0:
		for range 2 + d.roll(2)*(13-min(e.Op, 13)) {
			e.Kids = append(e.Kids, rolled(d, depth-1))
		}
	case e.Op > 10:
		e = op(5)
	case e.Op != 5 && e.Op != 6 && e.Op != 10:
		e.N = 1
	}
	if d.roll(30) == 0 {
		spoilt(d, &e)
	}
	return e
}

// spoilt turns an expression into another one, which may be right, too.
func spoilt(d *dice, e *api.Expr) {
	switch d.roll(4) {
	case 0:
		e.Op = d.roll(18) - 1
	case 1:
		slices.Reverse(e.Pairs)
	case 2:
		e.Kids = append(e.Kids, number(d.roll(3)))
	case 3:
		l := turns()
		l[d.roll(len(l))].turn(e)
	}
}

// all are expressions of all sorts, right or not, small ones and deep ones.
func all() []api.Expr {
	l := slices.Concat(rights(), wrongs())
	for i := range len(l) {
		l = append(l, nested(1+i%20, l[i]))
	}
	for i := range 600 {
		l = append(l, rolled(new(dice(i)), 3))
	}
	// Expressions that have parts where none belong: of those that are no structs Pairs are no parts, of structs Kids are none.
	inner := kids(11, ref("k"), number(1))
	return append(l,
		api.Expr{Op: 10, Pairs: pairs(2, ref("p")), Kids: many(3, inner)}, api.Expr{Op: 10, Kids: many(3, inner)}, api.Expr{Op: 11, Pairs: pairs(2, ref("p")), Kids: many(3, inner)}, api.Expr{Op: 1, Pairs: pairs(2, ref("p"))},
		with(ref("a"), ref("b"), inner, ref("c")), with(ref(), ref("b")), with(api.Expr{}, api.Expr{}, with(api.Expr{Op: -5}, number(3))), with(text("a"), with(text("b"), with(text("c")))), with(op(99), record(pair("", ref("")), pair("", with(ref("z"), ref("y"))))),
	)
}
