package show_test

import (
	"fmt"
	"slices"
	"strings"
	"testing"

	"treillage/api"
	"treillage/expr"
	"treillage/parse"
	"treillage/show"
)

// shows fails, if an expression's text is another one: alone, in a struct, in a definition, in a file; or if it is not read again as what was written.
func shows(t *testing.T, e api.Expr, want string) {
	t.Helper()
	if s, fault := show.Expr(e); s != want || fault != api.OK {
		t.Errorf("Expr(%s): %.300q %d, not %.300q", brief(e), s, fault, want)
	}
	if expr.Depth(e) < 16 {
		if s, fault := show.Expr(open(pair("x", e))); s != "{x: "+want+"; ...}" || fault != api.OK {
			t.Errorf("Expr of a struct with %s: %.300q %d", brief(e), s, fault)
		}
	}
	d := api.Decl{Name: "x", E: e}
	r := api.Decl{Name: "y_1", Res: true, E: e}
	if s, fault := show.Decl(d); s != "x: "+want+";" || fault != api.OK {
		t.Errorf("Decl of %s: %.300q %d", brief(e), s, fault)
	}
	if s, fault := show.Decl(r); s != "resource y_1: "+want+";" || fault != api.OK {
		t.Errorf("Decl of a resource of %s: %.300q %d", brief(e), s, fault)
	}
	if s, fault := show.File([]api.Decl{r, d, r}); s != "resource y_1: "+want+";\nx: "+want+";\nresource y_1: "+want+";\n" || fault != api.OK {
		t.Errorf("File of %s: %.300q %d", brief(e), s, fault)
	}
	if len(want) <= 4096 {
		if x, at, fault := parse.Expr(want); fault != api.OK || !expr.Same(x, e) {
			t.Errorf("%.300q is read as %s %d %d, not %s", want, brief(x), at, fault, brief(e))
		}
	}
}

// 15.1: the text of each unit, and of each operation.
func TestUnits(t *testing.T) {
	a, b, one := ref("a"), ref("b", "c"), number(1)
	for _, c := range []struct {
		e    api.Expr
		want string
	}{
		{number(0), "0"}, {number(7), "7"}, {number(-7), "-7"}, {number(-1), "-1"}, {number(10), "10"}, {number(1 << 53), "9007199254740992"}, {number(-1 << 53), "-9007199254740992"},
		{text(""), `""`}, {text("a b"), `"a b"`}, {text("true"), `"true"`}, {text(";# |"), `";# |"`}, {text("\"\\\n"), `"\"\\\n"`}, {text("\x00\t\x1f\x7f\xff"), `"\x00\x09\x1f\x7f\xff"`}, {text(" ~"), `" ~"`}, {text("é"), `"\xc3\xa9"`}, {text(`\n`), `"\\n"`},
		{text(strings.Repeat("x", 256)), `"` + strings.Repeat("x", 256) + `"`}, {text(strings.Repeat("\"", 256)), `"` + strings.Repeat(`\"`, 256) + `"`}, {text(strings.Repeat("\xff", 256)), `"` + strings.Repeat(`\xff`, 256) + `"`},
		{with(3, 0), "false"}, {with(3, 1), "true"}, {with(4, 1), "bool"}, {with(4, 2), "int"}, {with(4, 3), "string"}, {with(4, 5), "any"}, {op(5), "none"}, {op(6), "computed"},
		{with(7, 5), ">=5"}, {with(7, 0), ">=0"}, {with(7, -5), ">=-5"}, {with(7, 1<<53), ">=9007199254740992"}, {with(7, -1<<53), ">=-9007199254740992"},
		{with(8, 5), "<=5"}, {with(8, 0), "<=0"}, {with(8, -5), "<=-5"}, {with(8, 1<<53), "<=9007199254740992"}, {with(8, -1<<53), "<=-9007199254740992"},
		{a, "a"}, {b, "b.c"}, {ref("n", "n", "n"), "n.n.n"}, {ref("integer"), "integer"}, {ref("a_0", "b9"), "a_0.b9"}, {ref(names(16)...), strings.Join(names(16), ".")}, {ref(slices.Repeat([]string{"abcdefghijklmnop"}, 16)...), strings.Repeat("abcdefghijklmnop.", 15) + "abcdefghijklmnop"},
		{record(), "{}"}, {open(), "{...}"}, {record(pair("a", one)), "{a: 1;}"}, {open(pair("a", one)), "{a: 1; ...}"}, {record(pair("a", one), pair("b", a)), "{a: 1; b: a;}"}, {open(pair("a", one), pair("a0", b), pair("a_", a), pair("aa", one)), "{a: 1; a0: b.c; a_: a; aa: 1; ...}"},
		{record(pair("a", record())), "{a: {};}"}, {open(pair("a", open()), pair("b", record(pair("c", open(pair("d", a)))))), "{a: {...}; b: {c: {d: a; ...};}; ...}"},
		{record(pair("a", kids(12, one, a)), pair("b", kids(11, one, a)), pair("c", kids(13, one, a))), "{a: 1 | a; b: 1 & a; c: 1 + a;}"}, {record(pairs(32, one)...), "{" + strings.Join(names(32), ": 1; ") + ": 1;}"},
		{kids(11, a, b), "a & b.c"}, {kids(12, a, b), "a | b.c"}, {kids(13, a, b), "a + b.c"}, {kids(14, a, b), "a - b.c"}, {kids(15, a, b), "a * b.c"},
		{kids(14, number(-1), number(-2)), "-1 - -2"}, {kids(15, number(-1), number(-2)), "-1 * -2"}, {kids(11, with(7, 1), with(8, 9)), ">=1 & <=9"}, {kids(14, with(7, -1), with(8, -9)), ">=-1 - <=-9"}, {kids(12, op(5), op(6)), "none | computed"}, {kids(13, record(), open(pair("x", one))), "{} + {x: 1; ...}"}, {kids(15, text("*"), text("")), `"*" * ""`},
		{kids(12, one, kids(12, number(2), b)), "1 | (2 | b.c)"}, {open(pair("x", one)), "{x: 1; ...}"}, // the chapter's examples
	} {
		shows(t, c.e, c.want)
	}
}

// 15.1: each operation as the first Kid and as the second one of each other: in brackets just where the chapter asks for them.
func TestKids(t *testing.T) {
	a, inner := ref("a"), []api.Expr{ref("b"), ref("c")}
	for _, c := range []struct{ outer, first, second string }{{"|", "|", "|"}, {"&", "|&", "|&"}, {"+", "|&", "|&+-"}, {"-", "|&", "|&+-"}, {"*", "|&+-", "|&+-*"}} {
		outer := 11 + strings.Index("&|+-*", c.outer)
		for at, s := range []string{"&", "|", "+", "-", "*"} {
			kid, first, second := kids(11+at, inner...), "b "+s+" c", "b "+s+" c"
			if strings.Contains(c.first, s) {
				first = "(" + first + ")"
			}
			if strings.Contains(c.second, s) {
				second = "(" + second + ")"
			}
			shows(t, kids(outer, kid, a), first+" "+c.outer+" a")
			shows(t, kids(outer, a, kid), "a "+c.outer+" "+second)
			shows(t, kids(outer, kid, kid), first+" "+c.outer+" "+second)
			// In a struct, however it stands, there are no others than its own brackets.
			shows(t, kids(outer, record(pair("x", kid)), open(pair("x", kid))), "{x: b "+s+" c;} "+c.outer+" {x: b "+s+" c; ...}")
		}
	}
}

// 15.1: joins and meets of several Kids, one of each operation at each place.
func TestManyKids(t *testing.T) {
	for _, n := range []int{3, 4, 5, 31, 32} {
		for _, o := range []int{11, 12} {
			between := " " + sign(o) + " "
			shows(t, kids(o, many(n, ref("a"))...), strings.Repeat("a"+between, n-1)+"a")
			for at := range n {
				for k, s := range []string{"&", "|", "+", "-", "*"} {
					l, texts := many(n, ref("a")), slices.Repeat([]string{"a"}, n)
					l[at], texts[at] = kids(11+k, ref("b"), ref("c")), "b "+s+" c"
					if strings.Contains(brackets(o, at), s) {
						texts[at] = "(" + texts[at] + ")"
					}
					shows(t, kids(o, l...), strings.Join(texts, between))
				}
			}
			shows(t, kids(o, many(n, kids(12, ref("b"), ref("c")))...), strings.Repeat("(b | c)"+between, n-1)+"(b | c)")
		}
	}
}

// 15.1: operations in one another, written out.
func TestInOneAnother(t *testing.T) {
	a, b, c, d := ref("a"), ref("b"), ref("c"), ref("d")
	for _, x := range []struct {
		e    api.Expr
		want string
	}{
		{kids(12, kids(12, a, b), c), "(a | b) | c"}, {kids(12, a, kids(12, b, c)), "a | (b | c)"}, {kids(12, kids(12, a, b), kids(12, c, d)), "(a | b) | (c | d)"}, {kids(12, kids(12, kids(12, a, b), c), d), "((a | b) | c) | d"}, {kids(12, a, kids(12, b, kids(12, c, d))), "a | (b | (c | d))"}, {kids(12, a, b, c), "a | b | c"}, {kids(12, a, kids(12, b, c), d), "a | (b | c) | d"},
		{kids(11, kids(11, a, b), c), "(a & b) & c"}, {kids(11, a, kids(11, b, c)), "a & (b & c)"}, {kids(11, kids(11, kids(11, a, b), c), d), "((a & b) & c) & d"}, {kids(11, a, b, c), "a & b & c"}, {kids(11, a, kids(12, b, c), kids(11, c, d)), "a & (b | c) & (c & d)"},
		{kids(13, kids(13, a, b), c), "a + b + c"}, {kids(13, a, kids(13, b, c)), "a + (b + c)"}, {kids(14, kids(14, a, b), c), "a - b - c"}, {kids(14, a, kids(14, b, c)), "a - (b - c)"}, {kids(14, kids(13, a, b), kids(13, c, d)), "a + b - (c + d)"}, {kids(13, kids(14, kids(13, a, b), c), d), "a + b - c + d"}, {kids(13, a, kids(14, b, kids(13, c, d))), "a + (b - (c + d))"},
		{kids(15, kids(15, a, b), c), "a * b * c"}, {kids(15, a, kids(15, b, c)), "a * (b * c)"}, {kids(15, kids(15, kids(15, a, b), c), d), "a * b * c * d"}, {kids(15, kids(15, a, b), kids(15, c, d)), "a * b * (c * d)"}, {kids(15, a, kids(15, b, kids(15, c, d))), "a * (b * (c * d))"},
		{kids(13, kids(15, a, b), kids(15, c, d)), "a * b + c * d"}, {kids(15, kids(13, a, b), kids(14, c, d)), "(a + b) * (c - d)"}, {kids(15, kids(15, kids(13, a, b), c), d), "(a + b) * c * d"}, {kids(14, kids(15, a, kids(13, b, c)), d), "a * (b + c) - d"},
		{kids(11, kids(13, a, b), kids(15, c, d)), "a + b & c * d"}, {kids(12, kids(11, a, b), kids(13, c, d)), "a & b | c + d"}, {kids(13, kids(11, a, b), kids(12, c, d)), "(a & b) + (c | d)"}, {kids(15, kids(12, a, kids(11, b, c)), d), "(a | b & c) * d"}, {kids(12, a, kids(11, b, kids(13, c, kids(15, d, a)))), "a | b & c + d * a"}, {kids(15, kids(13, kids(11, kids(12, a, b), c), d), a), "(((a | b) & c) + d) * a"}, {kids(15, a, kids(13, b, kids(11, c, kids(12, d, a)))), "a * (b + (c & (d | a)))"},
		{kids(11, record(pair("x", kids(12, a, kids(12, b, c)))), d), "{x: a | (b | c);} & d"}, {kids(12, a, record(pair("x", kids(11, b, kids(12, c, open(pair("y", kids(12, a, d)))))))), "a | {x: b & (c | {y: a | d; ...});}"},
	} {
		shows(t, x.e, x.want)
	}
}

// 15.1: rows of each operation from the left and from the right, up to the greatest depth; one more is refused.
func TestRows(t *testing.T) {
	for o := 11; o <= 15; o++ {
		left, right, first, last := ref("a"), ref("a"), "a", "a"
		for n := 2; n <= 20; n++ {
			left, right = kids(o, left, number(1)), kids(o, number(1), right)
			if n > 2 && o < 13 {
				first = "(" + first + ")"
			}
			if n > 2 {
				last = "(" + last + ")"
			}
			first, last = first+" "+sign(o)+" 1", "1 "+sign(o)+" "+last
			if n <= 16 {
				shows(t, left, first)
				shows(t, right, last)
			} else {
				refused(t, left, api.ErrDepth)
				refused(t, right, api.ErrDepth)
			}
		}
	}
	curly, want := record(), "{}"
	for n := 2; n <= 16; n++ {
		curly, want = record(pair("a", curly)), "{a: "+want+";}"
		shows(t, curly, want)
	}
	refused(t, record(pair("a", curly)), api.ErrDepth)
}

// refused fails, if an expression is not refused with an error, alone, in a definition and in a file.
func refused(t *testing.T, e api.Expr, want api.Errno) {
	t.Helper()
	if s, fault := show.Expr(e); s != "" || fault != want {
		t.Errorf("Expr(%s): %.100q %d, not %d", brief(e), s, fault, want)
	}
	for _, d := range []api.Decl{{Name: "a", E: e}, {Name: "a", Res: true, E: e}} {
		if s, fault := show.Decl(d); s != "" || fault != want {
			t.Errorf("Decl of %s: %.100q %d, not %d", brief(e), s, fault, want)
		}
		fine := api.Decl{Name: "b", E: number(1)}
		for _, l := range [][]api.Decl{{d}, {fine, d}, {d, fine}, {fine, d, {}}} {
			if s, fault := show.File(l); s != "" || fault != want {
				t.Errorf("File of %s: %.100q %d, not %d", brief(l), s, fault, want)
			}
		}
	}
}

// 15.1: what Check refuses, alone and within others: ErrArg ahead of ErrDepth, wherever each is.
func TestRefused(t *testing.T) {
	for _, e := range wrongs() {
		for _, n := range []int{0, 1, 2, 3, 4, 5, 15, 16, 30} {
			refused(t, nested(n, e), api.ErrArg)
		}
		refused(t, kids(12, nested(20, number(1)), e), api.ErrArg)
		refused(t, kids(12, e, nested(20, number(1))), api.ErrArg)
		refused(t, record(pair("a", nested(20, number(1))), pair("b", e)), api.ErrArg)
	}
	for n := range 40 {
		if e := nested(n, number(1)); n < 16 {
			shows(t, e, model(e))
		} else {
			refused(t, e, api.ErrDepth)
		}
	}
}

// notNames are texts that are no names.
func notNames() []string {
	return []string{"", "A", "a.b", "9a", "_a", "a b", "a-b", "a\n", "é", "\xff", "\x00", "abcdefghijklmnopq", "any", "bool", "computed", "false", "int", "none", "resource", "string", "true", strings.Repeat("a", 1<<20)}
}

// 15.1: a definition's name is looked at ahead of its expression; names that look like words are names.
func TestNames(t *testing.T) {
	for _, s := range notNames() {
		for _, e := range []api.Expr{number(1), {}, nested(16, number(1)), nested(16, op(0)), number(1<<53 + 1)} {
			for _, res := range []bool{false, true} {
				d := api.Decl{Name: s, Res: res, E: e}
				if s, fault := show.Decl(d); s != "" || fault != api.ErrArg {
					t.Errorf("Decl(%s): %.100q %d", brief(d), s, fault)
				}
				if s, fault := show.File([]api.Decl{d, {Name: "a", E: nested(16, number(1))}}); s != "" || fault != api.ErrArg {
					t.Errorf("File of %s: %.100q %d", brief(d), s, fault)
				}
			}
		}
	}
	for _, s := range []string{"a", "z", "a_", "a9", "resources", "integer", "abcdefghijklmnop"} {
		for res, first := range map[bool]string{false: "", true: "resource "} {
			if got, fault := show.Decl(api.Decl{Name: s, Res: res, E: number(1)}); got != first+s+": 1;" || fault != api.OK {
				t.Errorf("Decl of the name %s: %q %d", s, got, fault)
			}
		}
	}
}

// 15.1: files without definitions, of as many as there may be, and of more; what Decl refuses first.
func TestFiles(t *testing.T) {
	for _, l := range [][]api.Decl{nil, {}} {
		if s, fault := show.File(l); s != "" || fault != api.OK {
			t.Errorf("File of nothing: %q %d", s, fault)
		}
	}
	fine, unnamed, deep := api.Decl{Name: "a", E: number(1)}, api.Decl{Name: "int", E: number(1)}, api.Decl{Name: "a", E: nested(16, number(1))}
	for _, n := range []int{1, 2, 255, 256, 257, 258, 1000} {
		l := slices.Repeat([]api.Decl{fine}, n)
		want, e := strings.Repeat("a: 1;\n", n), api.OK
		if n > 256 {
			want, e = "", api.ErrLong
		}
		if s, fault := show.File(l); s != want || fault != e {
			t.Errorf("File of %d: %.100q %d", n, s, fault)
		}
		for _, c := range []struct {
			d api.Decl
			e api.Errno
		}{{unnamed, api.ErrArg}, {deep, api.ErrDepth}} {
			if n > 256 {
				c.e = api.ErrLong
			}
			for _, at := range []int{0, n / 2, n - 1} {
				l := slices.Clone(l)
				l[at] = c.d
				if s, fault := show.File(l); s != "" || fault != c.e {
					t.Errorf("File of %d, one of which is wrong at %d: %.100q %d, not %d", n, at, s, fault, c.e)
				}
			}
		}
	}
	for _, c := range []struct {
		l []api.Decl
		e api.Errno
	}{{[]api.Decl{unnamed, deep}, api.ErrArg}, {[]api.Decl{deep, unnamed}, api.ErrDepth}, {[]api.Decl{fine, deep, fine, unnamed}, api.ErrDepth}, {[]api.Decl{fine, {Name: "b"}, deep}, api.ErrArg}} {
		if s, fault := show.File(c.l); s != "" || fault != c.e {
			t.Errorf("File(%s): %.100q %d, not %d", brief(c.l), s, fault, c.e)
		}
	}
	l := []api.Decl{{Name: "web", Res: true, E: record(pair("n", ref("net", "n")))}, fine, {Name: "net", Res: true, E: open()}, fine, {Name: "a", E: with(4, 2)}}
	if s, fault := show.File(l); s != "resource web: {n: net.n;};\na: 1;\nresource net: {...};\na: 1;\na: int;\n" || fault != api.OK {
		t.Errorf("File of several: %q %d", s, fault)
	}
}

// R1, 15.1: texts that are longer than a file may be are written all the same, and what is great in some way is answered.
func TestGreat(t *testing.T) {
	wide := number(7)
	for range 3 {
		wide = kids(11, many(32, wide)...)
	}
	if s, fault := show.Expr(wide); fault != api.OK || s != model(wide) || len(s) < 1<<15*4 {
		t.Errorf("Expr of a wide meet: %d bytes, %d", len(s), fault)
	}
	long := kids(12, many(32, text(strings.Repeat("\xff", 256)))...)
	if s, fault := show.Expr(long); fault != api.OK || s != model(long) || len(s) <= 4096 {
		t.Errorf("Expr of long texts: %d bytes, %d", len(s), fault)
	}
	for o := 10; o <= 15; o++ {
		e := ref("a")
		for range 1<<16 - 1 {
			if o == 10 {
				e = record(pair("a", e))
			} else {
				e = kids(o, number(1), e)
			}
		}
		if s, fault := show.Expr(kids(11, e, e)); s != "" || fault != api.ErrDepth {
			t.Errorf("Expr of operation %d, in itself 65536 times: %.100q %d", o, s, fault)
		}
	}
	for _, e := range []api.Expr{record(make([]api.Pair, 1<<16)...), kids(12, make([]api.Expr, 1<<16)...), {Op: 9, Path: make([]string, 1<<16)}, text(strings.Repeat("x", 1<<16)), kids(11, many(1<<16, ref("a"))...)} {
		refused(t, e, api.ErrArg)
	}
	if s, fault := show.File(make([]api.Decl, 1<<20)); s != "" || fault != api.ErrLong {
		t.Errorf("File of many: %.100q %d", s, fault)
	}
}

// R5: what is handed in stays as it is, what lies behind a list's length is not written down, and an empty list is as good as none.
func TestMemory(t *testing.T) {
	path, l, m := []string{"a", "spoilt"}, []api.Pair{pair("a", number(1)), {}}, []api.Expr{number(1), number(2), {}}
	d := []api.Decl{{Name: "a", E: kids(11, api.Expr{Op: 9, Path: path[:1]}, api.Expr{Op: 10, Pairs: l[:1]}, api.Expr{Op: 12, Kids: m[:2]})}, {}}
	was := fmt.Sprintf("%+v %+v %+v %+v", d, path, l, m)
	if s, fault := show.File(d[:1]); s != "a: a & {a: 1;} & (1 | 2);\n" || fault != api.OK {
		t.Errorf("File: %q %d", s, fault)
	}
	if now := fmt.Sprintf("%+v %+v %+v %+v", d, path, l, m); now != was {
		t.Errorf("what was handed in is changed: %s, not %s", now, was)
	}
	for _, e := range []api.Expr{number(1), text("a"), op(5), ref("b"), record(), kids(13, number(1), number(2))} {
		want := model(e)
		if len(e.Path) == 0 {
			e.Path = path[:0]
		}
		if e.Op < 11 {
			e.Kids = m[:0]
		}
		e.Pairs = []api.Pair{}
		shows(t, e, want)
	}
}
