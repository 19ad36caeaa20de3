package parse_test

import (
	"slices"
	"strconv"
	"strings"
	"testing"

	"treillage/api"
	"treillage/expr"
	"treillage/name"
	"treillage/parse"
	"treillage/token"
)

// dice are numbers that have no order to be seen.
type dice uint32

// roll is a number from 0 up to below n.
func (d *dice) roll(n int) int {
	*d = *d*1664525 + 1013904223
	return int(uint32(*d)>>8) % n
}

// rolled is a right expression, at most so deep.
func rolled(d *dice, depth int) api.Expr {
	e := op(1 + d.roll(9))
	if depth > 1 && d.roll(4) > 0 {
		e = op(10 + d.roll(6))
	}
	switch e.Op {
	case 5, 6:
	case 1, 7, 8:
		e.N = []int{0, 1, -1, 42, -7, 1 << 53, -1 << 53}[d.roll(7)]
	case 2:
		e.Text = []string{"", "a", "\"\n\\\x00\xff", "a: 1;"}[d.roll(4)]
	case 3:
		e.N = d.roll(2)
	case 4:
		e.N = []int{1, 2, 3, 5}[d.roll(4)]
	case 9:
		for range 1 + d.roll(3) {
			e.Path = append(e.Path, string("abcdz"[d.roll(5)]))
		}
	case 10:
		for _, s := range []string{"a", "a0", "b", "inty"} {
			if depth > 1 && d.roll(2) == 0 {
				e.Pairs = append(e.Pairs, pair(s, rolled(d, depth-1)))
			}
		}
		e.Open = d.roll(2) == 0
	default:
		for n := 2 + d.roll(3); len(e.Kids) < 2 || e.Op < 13 && len(e.Kids) < n; {
			e.Kids = append(e.Kids, rolled(d, depth-1))
		}
	}
	return e
}

// rolledDecl is a definition.
func rolledDecl(d *dice, depth int) api.Decl {
	return api.Decl{Name: []string{"a", "net", "x_9"}[d.roll(3)], Res: d.roll(2) == 0, E: rolled(d, depth)}
}

// binds is how much an expression's operation binds.
func binds(e api.Expr) int {
	switch e.Op {
	case 12:
		return 1
	case 11:
		return 2
	case 13, 14:
		return 3
	case 15:
		return 4
	}
	return 5
}

// tokens are those of an expression, in brackets where the rules would not read it so without, as it binds less than it has to; and where the dice say so.
func tokens(e api.Expr, least int, d *dice) []string {
	if binds(e) < least || d != nil && d.roll(8) == 0 {
		return slices.Concat([]string{"("}, tokens(e, 1, d), []string{")"})
	}
	if e.Op <= 10 {
		return unitTokens(e, d)
	}
	first, others := binds(e), binds(e)+1
	if e.Op < 13 {
		first = others
	}
	var l []string
	for i, k := range e.Kids {
		if i == 0 {
			l = tokens(k, first, d)
		} else {
			l = append(append(l, map[int]string{11: "&", 12: "|", 13: "+", 14: "-", 15: "*"}[e.Op]), tokens(k, others, d)...)
		}
	}
	return l
}

// unitTokens are the tokens of an expression that is a unit.
func unitTokens(e api.Expr, d *dice) []string {
	digits := []string{strconv.Itoa(e.N)}
	if e.N < 0 {
		digits = []string{"-", strconv.Itoa(-e.N)}
	}
	switch e.Op {
	case 1:
		return digits
	case 2:
		return []string{token.Quote(e.Text)}
	case 3:
		return []string{[]string{"false", "true"}[e.N]}
	case 4:
		return []string{[]string{"", "bool", "int", "string", "", "any"}[e.N]}
	case 7:
		return append([]string{">="}, digits...)
	case 8:
		return append([]string{"<="}, digits...)
	case 9:
		return strings.Split(strings.Join(e.Path, " . "), " ")
	case 10:
		l, pairs := []string{"{"}, slices.Clone(e.Pairs)
		if d != nil && d.roll(2) == 0 {
			slices.Reverse(pairs) // in whatever order they stand, they are read by their names
		}
		for _, p := range pairs {
			l = slices.Concat(l, []string{p.Name, ":"}, tokens(p.E, 1, d), []string{";"})
		}
		if e.Open {
			l = append(l, "...")
		}
		return append(l, "}")
	}
	return []string{map[int]string{5: "none", 6: "computed"}[e.Op]}
}

// declTokens are the tokens of a definition.
func declTokens(x api.Decl, d *dice) []string {
	l := slices.Concat([]string{x.Name, ":"}, tokens(x.E, 1, d), []string{";"})
	if x.Res {
		l = append([]string{"resource"}, l...)
	}
	return l
}

// spaced are tokens with blanks and remarks between, as few as can be or more.
func spaced(l []string, d *dice) string {
	var b strings.Builder
	for i, s := range l {
		plain := i > 0 && inWord(l[i-1]) && inWord(s) || s[0] == '.'
		switch d.roll(6) {
		case 0:
			b.WriteString(" # ) x;\n")
		case 1, 2:
			b.WriteString([]string{" ", "\n", "\t", "\r\n", "  "}[d.roll(5)])
		default:
			if plain {
				b.WriteString(" ")
			}
		}
		b.WriteString(s)
	}
	return b.String()
}

// inWord tells whether a token ends and begins with what may stand in a name or a number.
func inWord(s string) bool {
	return s != "" && (s[0] >= 'a' && s[0] <= 'z' || s[0] >= '0' && s[0] <= '9')
}

// exprText is an expression as a text that may stand where something has to bind so much.
func exprText(e api.Expr, least int, d *dice) string { return strings.Join(tokens(e, least, d), " ") }

// fileText is a text of some definitions.
func fileText(l []api.Decl) string {
	var b strings.Builder
	for _, x := range l {
		b.WriteString(strings.Join(declTokens(x, nil), " ") + "\n")
	}
	return b.String()
}

// 14.1, 14.2: expressions of all sorts come back from their texts, whatever brackets and blanks stand in those besides.
func TestTexts(t *testing.T) {
	read, deep := 0, 0
	for i := range 30000 {
		d := new(dice(i))
		want := rolled(d, 1+i%6)
		if expr.Check(want) != api.OK {
			t.Fatalf("not right: %v", want)
		}
		for _, with := range []*dice{nil, d} {
			s := spaced(tokens(want, 1, with), d)
			x, at, e := parse.Expr(s)
			switch {
			case len(s) > 4096 && e == api.ErrLong && at == 0:
				continue
			case e == api.ErrDepth && depthOf(s) > 16:
				deep++
				continue
			case e != api.OK || at != 0 || !expr.Same(x, want):
				t.Fatalf("Expr(%s): %v %d %d, not %v", s, x, at, e, want)
			}
			read++
		}
		l := []api.Decl{rolledDecl(d, 3), rolledDecl(d, 1), rolledDecl(d, 2)}
		if x, _, e := parse.Parse(fileText(l)); e != api.OK || !slices.EqualFunc(x, l, sameDecl) {
			t.Fatalf("Parse(%s): %v %d, not %v", fileText(l), x, e, l)
		}
	}
	if read < 30000 || deep > read/10 {
		t.Errorf("only %d of them are read, and %d are too deep", read, deep)
	}
}

// depthOf is how deep the brackets of a text stand in one another.
func depthOf(s string) int {
	l, _, _ := token.Lex(s)
	now, most := 0, 0
	for _, t := range l {
		switch {
		case t.Kind == token.Sign && (t.Text == "(" || t.Text == "{"):
			now++
			most = max(most, now)
		case t.Kind == token.Sign && (t.Text == ")" || t.Text == "}"):
			now--
		}
	}
	return most
}

// 14.1: each word of the language as a name, and each name that looks like one as a word.
func TestWordsAndNames(t *testing.T) {
	for _, w := range []string{"any", "bool", "computed", "false", "int", "none", "resource", "string", "true"} {
		if name.Word(w) == 0 {
			t.Fatalf("%s is no word", w)
		}
		refused(t, "a: 1; "+map[bool]string{true: "resource ^: 1;", false: "^" + w + ": 1;"}[w == "resource"], api.ErrSyntax)
		refused(t, "resource ^"+w+": 1;", api.ErrSyntax)
		refusedExpr(t, "{^"+w+": 1;}", api.ErrSyntax)
		refusedExpr(t, "a.^"+w, api.ErrSyntax)
		refusedExpr(t, "1 ^"+w, api.ErrSyntax)
		refusedExpr(t, "-^"+w, api.ErrSyntax)
		for _, like := range []string{w + "_", w + "0", w[:len(w)-1]} {
			reads(t, like+"."+like, ref(like, like))
			reads(t, "{"+like+": 1;}", record(pair(like, number(1))))
			files(t, "resource "+like+": 1; "+like+": 2;", api.Decl{Name: like, Res: true, E: number(1)}, api.Decl{Name: like, E: number(2)})
		}
		if w == "resource" {
			refusedExpr(t, "^"+w, api.ErrSyntax)
		} else if x, at, e := parse.Expr(w); e != api.OK || at != 0 || x.Op < 3 || x.Op > 6 {
			t.Errorf("Expr(%s): %v %d %d", w, x, at, e)
		}
	}
}
