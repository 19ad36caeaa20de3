package parse_test

import (
	"fmt"
	"slices"
	"strings"
	"testing"

	"treillage/api"
	"treillage/expr"
	"treillage/parse"
)

// op, with, text, ref, record, pair and kids are short for what expressions are made of; kinds and operations are written as numbers.
func op(o int) api.Expr                     { return api.Expr{Op: o} }
func with(o, n int) api.Expr                { return api.Expr{Op: o, N: n} }
func number(n int) api.Expr                 { return with(1, n) }
func text(s string) api.Expr                { return api.Expr{Op: 2, Text: s} }
func ref(p ...string) api.Expr              { return api.Expr{Op: 9, Path: p} }
func record(l ...api.Pair) api.Expr         { return api.Expr{Op: 10, Pairs: l} }
func open(l ...api.Pair) api.Expr           { return api.Expr{Op: 10, Pairs: l, Open: true} }
func pair(name string, e api.Expr) api.Pair { return api.Pair{Name: name, E: e} }
func kids(o int, l ...api.Expr) api.Expr    { return api.Expr{Op: o, Kids: l} }

// show is the begin of what is told, which may be great.
func show(x any) string {
	s := fmt.Sprintf("%+v", x)
	return s[:min(len(s), 300)]
}

// reads fails, if a join is not read as an expression, alone and as a definition, with other things around it or without.
func reads(t *testing.T, s string, want api.Expr) {
	t.Helper()
	for _, c := range []string{s, " # x\n" + s + "\n", "\t" + s + "#;"} {
		if x, at, e := parse.Expr(c); e != api.OK || at != 0 || !expr.Same(x, want) {
			t.Errorf("Expr(%.80q): %s %d %d, not %s", c, show(x), at, e, show(want))
		}
	}
	files(t, "x: "+s+";", api.Decl{Name: "x", E: want})
	files(t, "b:1;resource x:"+s+"; a: 2;", api.Decl{Name: "b", E: number(1)}, api.Decl{Name: "x", Res: true, E: want}, api.Decl{Name: "a", E: number(2)})
	files(t, "x: {y: "+s+";};", api.Decl{Name: "x", E: record(pair("y", want))})
}

// files fails, if a file is not read as some definitions.
func files(t *testing.T, s string, want ...api.Decl) {
	t.Helper()
	l, at, e := parse.Parse(s)
	if e != api.OK || at != 0 || !slices.EqualFunc(l, want, sameDecl) {
		t.Errorf("Parse(%.80q): %s %d %d, not %s", s, show(l), at, e, show(want))
	}
}

// sameDecl tells whether two definitions are the same.
func sameDecl(a, b api.Decl) bool { return a.Name == b.Name && a.Res == b.Res && expr.Same(a.E, b.E) }

// refused fails, if a file is not refused with an error, at the place at which the mark ^ stands.
func refused(t *testing.T, s string, want api.Errno) {
	t.Helper()
	place := strings.Index(s, "^")
	s = s[:place] + s[place+1:]
	if l, at, e := parse.Parse(s); len(l) != 0 || at != place || e != want {
		t.Errorf("Parse(%.120q, of %d bytes): %s %d %d, not %d %d", s, len(s), show(l), at, e, place, want)
	}
}

// refusedExpr is likewise for an expression, alone, as a definition's, and within a struct's pair.
func refusedExpr(t *testing.T, s string, want api.Errno) {
	t.Helper()
	place := strings.Index(s, "^")
	c := s[:place] + s[place+1:]
	if x, at, e := parse.Expr(c); !expr.Same(x, api.Expr{}) || at != place || e != want {
		t.Errorf("Expr(%.120q): %s %d %d, not %d %d", c, show(x), at, e, place, want)
	}
	if place < len(c) {
		refused(t, "x: 1; resource y:"+s+";", want)
		refused(t, "x: "+s, want)
	} else {
		refused(t, "x: 1; y: "+s, want)
	}
}

// 14.1: each unit.
func TestUnits(t *testing.T) {
	for s, want := range map[string]api.Expr{
		"0": number(0), "7": number(7), "-7": number(-7), "- 7": number(-7), "-# x\n7": number(-7), "-0": number(0), "9007199254740992": number(1 << 53), "-9007199254740992": number(-1 << 53),
		`""`: text(""), `"a b"`: text("a b"), `"\x00\n\"\\"`: text("\x00\n\"\\"), `"true"`: text("true"), `";"`: text(";"), `"` + strings.Repeat("x", 256) + `"`: text(strings.Repeat("x", 256)),
		"true": with(3, 1), "false": with(3, 0), "bool": with(4, 1), "int": with(4, 2), "string": with(4, 3), "any": with(4, 5), "none": op(5), "computed": op(6),
		">=5": with(7, 5), ">= -5": with(7, -5), ">=-5": with(7, -5), ">=0": with(7, 0), "<=5": with(8, 5), "<= - 5": with(8, -5), "<=-9007199254740992": with(8, -1<<53), ">=9007199254740992": with(7, 1<<53), "<= -0": with(8, 0),
		"a": ref("a"), "a.b": ref("a", "b"), "a . b.c": ref("a", "b", "c"), "a.a.a": ref("a", "a", "a"), "anyone": ref("anyone"), "int8.bool_": ref("int8", "bool_"), "abcdefghijklmnop": ref("abcdefghijklmnop"),
		"(1)": number(1), "((a))": ref("a"), "(-1)": number(-1), "({})": record(), "(1 | 2)": kids(12, number(1), number(2)),
		"{}": record(), "{...}": open(), "{ a: 1; }": record(pair("a", number(1))), "{a:1;...}": open(pair("a", number(1))), "{b: 1; a: {c: d.e; ...};}": record(pair("a", open(pair("c", ref("d", "e")))), pair("b", number(1))),
		"{a: 1 | 2; b: (3);}": record(pair("a", kids(12, number(1), number(2))), pair("b", number(3))), "{a: {a: {a: 1;};};}": record(pair("a", record(pair("a", record(pair("a", number(1))))))),
		"{c: 1; a_: 2; a0: 3; aa: 4; a: 5; ...}": open(pair("a", number(5)), pair("a0", number(3)), pair("a_", number(2)), pair("aa", number(4)), pair("c", number(1))),
	} {
		reads(t, s, want)
		reads(t, "("+s+")", want)
		reads(t, s+"*"+s, kids(15, want, want))
	}
}

// 14.1: how much each operation binds, what brackets change, and several of one kind.
func TestOperations(t *testing.T) {
	a, b, c, d := ref("a"), ref("b"), ref("c"), ref("d")
	for s, want := range map[string]api.Expr{
		"1 | 2 & b": kids(12, number(1), kids(11, number(2), b)), // the chapter's example
		"a | b":     kids(12, a, b), "a | b | c": kids(12, a, b, c), "(a | b) | c": kids(12, kids(12, a, b), c), "a | (b | c)": kids(12, a, kids(12, b, c)), "(a | b | c)": kids(12, a, b, c),
		"a & b": kids(11, a, b), "a & b & c": kids(11, a, b, c), "(a & b) & c": kids(11, kids(11, a, b), c), "a & (b & c)": kids(11, a, kids(11, b, c)),
		"a + b": kids(13, a, b), "a + b + c": kids(13, kids(13, a, b), c), "a + (b + c)": kids(13, a, kids(13, b, c)), "(a + b) + c": kids(13, kids(13, a, b), c),
		"a - b": kids(14, a, b), "a - b - c": kids(14, kids(14, a, b), c), "a - (b - c)": kids(14, a, kids(14, b, c)), "a + b - c + d": kids(13, kids(14, kids(13, a, b), c), d), "a - b + c - d": kids(14, kids(13, kids(14, a, b), c), d),
		"a * b": kids(15, a, b), "a * b * c": kids(15, kids(15, a, b), c), "a * (b * c)": kids(15, a, kids(15, b, c)), "a*b*c*d": kids(15, kids(15, kids(15, a, b), c), d),
		"a + b * c": kids(13, a, kids(15, b, c)), "a * b + c": kids(13, kids(15, a, b), c), "(a + b) * c": kids(15, kids(13, a, b), c), "a * (b - c)": kids(15, a, kids(14, b, c)), "a*b - c*d": kids(14, kids(15, a, b), kids(15, c, d)),
		"a & b + c": kids(11, a, kids(13, b, c)), "a + b & c": kids(11, kids(13, a, b), c), "(a & b) + c": kids(13, kids(11, a, b), c), "a - (b & c)": kids(14, a, kids(11, b, c)), "a & b * c & d": kids(11, a, kids(15, b, c), d), "(a & b) * c": kids(15, kids(11, a, b), c),
		"a | b & c": kids(12, a, kids(11, b, c)), "a & b | c": kids(12, kids(11, a, b), c), "(a | b) & c": kids(11, kids(12, a, b), c), "a & (b | c)": kids(11, a, kids(12, b, c)), "a & b | c & d": kids(12, kids(11, a, b), kids(11, c, d)), "a & (b | c) & d": kids(11, a, kids(12, b, c), d),
		"a | b + c": kids(12, a, kids(13, b, c)), "a + b | c": kids(12, kids(13, a, b), c), "a + (b | c)": kids(13, a, kids(12, b, c)), "(a | b) * (c | d)": kids(15, kids(12, a, b), kids(12, c, d)), "a | b | c & d + a * b": kids(12, a, b, kids(11, c, kids(13, d, kids(15, a, b)))), "a * b + c & d | a": kids(12, kids(11, kids(13, kids(15, a, b), c), d), a),
		"1 - 2": kids(14, number(1), number(2)), "1 -2": kids(14, number(1), number(2)), "1-2": kids(14, number(1), number(2)), "1 - -2": kids(14, number(1), number(-2)), "1--2": kids(14, number(1), number(-2)), "-1 - 2": kids(14, number(-1), number(2)), "1 + -2": kids(13, number(1), number(-2)), "-1*-2": kids(15, number(-1), number(-2)), "a -1": kids(14, a, number(1)), "a | -1": kids(12, a, number(-1)), "(a)-1": kids(14, a, number(1)), "1 - (-2)": kids(14, number(1), number(-2)), "1 -(2)": kids(14, number(1), number(2)), "{}-1": kids(14, record(), number(1)),
		">=1 & <=9": kids(11, with(7, 1), with(8, 9)), ">=1 + 2": kids(13, with(7, 1), number(2)), ">=-1-2": kids(14, with(7, -1), number(2)), ">=1*2": kids(15, with(7, 1), number(2)), "int | string": kids(12, with(4, 2), with(4, 3)), "computed & int": kids(11, op(6), with(4, 2)), "a.b+c.d": kids(13, ref("a", "b"), ref("c", "d")), `"a" + "b"`: kids(13, text("a"), text("b")), "{x: a;} & {...}": kids(11, record(pair("x", a)), open()),
	} {
		reads(t, s, want)
		reads(t, "(("+s+"))", want)
	}
}

// 14.1: files: without definitions, with resources and without, the same name twice; all in the order in which they stand.
func TestFiles(t *testing.T) {
	for _, s := range []string{"", " ", "\n\t\r ", "# x", "#\n# y: 1;\n"} {
		files(t, s)
	}
	a, b := api.Decl{Name: "a", E: number(1)}, api.Decl{Name: "b", Res: true, E: ref("a", "n")}
	files(t, "a:1;", a)
	files(t, "a : 1 ;", a)
	files(t, " a: 1; # z: 2;\n", a)
	files(t, "resource b: a.n;", b)
	files(t, "b: 2; a: 1;", api.Decl{Name: "b", E: number(2)}, a)
	files(t, "a: 1; resource b: a.n; a: 1; a: int; resource a: 1;", a, b, a, api.Decl{Name: "a", E: with(4, 2)}, api.Decl{Name: "a", Res: true, E: number(1)})
	files(t, "resource#x\nb:a\n.\nn;a:1;", b, a)
	files(t, "resource resources: 1; integer: 2;", api.Decl{Name: "resources", Res: true, E: number(1)}, api.Decl{Name: "integer", E: number(2)})
	files(t, "resource web: {n: net.n;}; resource net: {n: 4;};", api.Decl{Name: "web", Res: true, E: record(pair("n", ref("net", "n")))}, api.Decl{Name: "net", Res: true, E: record(pair("n", number(4)))})
}

// R5: what is answered is new each time, lists within lists, too, and no two lists of one answer share memory.
func TestMemory(t *testing.T) {
	const s = "resource a: {c: b.x.y & {d: 1; ...} & 2; b: 1 + 2 * b.x;} | b.x | 4; b: a.c | a.c;"
	want, _, _ := parse.Parse(s)
	was := show(want)
	first, _, _ := parse.Parse(s)
	for i := range first {
		spoil(first[i].E)
		first[i] = api.Decl{Name: "spoilt"}
		if i == 0 {
			if again, _, _ := parse.Parse(s); !sameDecl(first[1], again[1]) {
				t.Errorf("two definitions share memory")
			}
		}
	}
	if again, _, _ := parse.Parse(s); !slices.EqualFunc(again, want, sameDecl) || show(want) != was {
		t.Errorf("an answer is not new")
	}
	x, _, e := parse.Expr("{a: b.c; d: 1 | 2; e: 3 & 4;} | b.c | 5 + 6")
	if e != api.OK {
		t.Fatalf("Expr: %d", e)
	}
	spoil(x.Kids[0])
	if !expr.Same(x.Kids[1], ref("b", "c")) || !expr.Same(x.Kids[2], kids(13, number(5), number(6))) {
		t.Errorf("two lists of one answer share memory: %s", show(x))
	}
}

// spoil writes over all that an expression's lists reach, up to their capacities.
func spoil(e api.Expr) {
	for _, p := range e.Pairs {
		spoil(p.E)
	}
	for _, k := range e.Kids {
		spoil(k)
	}
	path, pairs, kids := e.Path[:cap(e.Path)], e.Pairs[:cap(e.Pairs)], e.Kids[:cap(e.Kids)]
	for i := range path {
		path[i] = "spoilt"
	}
	for i := range pairs {
		pairs[i] = api.Pair{Name: "spoilt"}
	}
	for i := range kids {
		kids[i] = api.Expr{Op: 77}
	}
}
