package show_test

import (
	"slices"
	"strings"
	"testing"

	"treillage/api"
	"treillage/expr"
	"treillage/parse"
	"treillage/show"
	"treillage/token"
)

// sameDecl tells whether two definitions are the same.
func sameDecl(a, b api.Decl) bool { return a.Name == b.Name && a.Res == b.Res && expr.Same(a.E, b.E) }

// 15.1, 15.2: rolled expressions and definitions, held against the chapter's words; what is written is read as it was, and written again the same.
func TestRolled(t *testing.T) {
	read := 0
	for i := range 30000 {
		d := new(dice(i))
		e := rolled(d, 1+i%6)
		s, fault := show.Expr(e)
		if fault != api.OK || s != model(e) {
			t.Fatalf("Expr(%s): %s %d, not %s", brief(e), s, fault, model(e))
		}
		if len(s) > 4096 {
			continue
		}
		read++
		x, _, fault := parse.Expr(s)
		if again, other := show.Expr(x); fault != api.OK || !expr.Same(x, e) || again != s || other != api.OK {
			t.Fatalf("%s is read as %s %d, and written as %s", s, brief(x), fault, again)
		}
		l, want := []api.Decl{rolledDecl(d, 3), rolledDecl(d, 1), rolledDecl(d, 2)}, ""
		for _, x := range l {
			want += declModel(x) + "\n"
			if s, fault := show.Decl(x); fault != api.OK || s != declModel(x) {
				t.Fatalf("Decl(%s): %s %d", brief(x), s, fault)
			}
		}
		s, fault = show.File(l)
		if fault != api.OK || s != want {
			t.Fatalf("File(%s): %s %d, not %s", brief(l), s, fault, want)
		}
		if x, _, fault := parse.Parse(s); fault != api.OK || !slices.EqualFunc(x, l, sameDecl) {
			t.Fatalf("%s is read as %s %d", s, brief(x), fault)
		}
	}
	if read < 25000 {
		t.Errorf("only %d of them are read", read)
	}
}

// 15.1: any expressions, right or not.
func TestAny(t *testing.T) {
	seen := map[api.Errno]int{}
	for i := range 20000 {
		d := new(dice(i))
		e := nested(d.roll(20), rolled(d, 1+d.roll(4)))
		if i%2 == 0 {
			e = spoilt(d, e)
		}
		s, fault := show.Expr(e)
		want := expr.Check(e)
		if fault != want || want == api.OK && s != model(e) || want != api.OK && s != "" {
			t.Fatalf("Expr(%s): %s %d, not %d", brief(e), s, fault, want)
		}
		seen[fault]++
	}
	if seen[api.OK] < 1000 || seen[api.ErrArg] < 1000 || seen[api.ErrDepth] < 1000 {
		t.Errorf("too few of some kind: %v", seen)
	}
}

// 15.2: no text stands in more brackets than may be read, as each part stands in at most one of its own: the deepest expressions of all operations.
func TestDeepest(t *testing.T) {
	for first := 10; first <= 15; first++ {
		for second := 10; second <= 15; second++ {
			for at := range 2 {
				e := record()
				for n := range 15 {
					o := []int{first, second}[n%2]
					if l := many(2, number(1)); o == 10 {
						e = open(pair("a", e))
					} else {
						l[at] = e
						e = kids(o, l...)
					}
				}
				s, fault := show.Expr(e)
				x, _, other := parse.Expr(s)
				if fault != api.OK || other != api.OK || s != model(e) || !expr.Same(x, e) {
					t.Errorf("%s %d is read with %d", s, fault, other)
				}
			}
		}
	}
}

// 15.1: brackets stand just where they have to: without any one pair of them the text is read as something else, or not at all.
func TestNoMoreBrackets(t *testing.T) {
	taken := 0
	for i := range 6000 {
		e := rolled(new(dice(i)), 4)
		s, _ := show.Expr(e)
		l, _, fault := token.Lex(s)
		if fault != api.OK {
			continue
		}
		var left []int
		for _, k := range l {
			switch {
			case k.Kind == token.Sign && k.Text == "(":
				left = append(left, k.At)
			case k.Kind == token.Sign && k.Text == ")":
				at := left[len(left)-1]
				left = left[:len(left)-1]
				taken++
				if x, _, fault := parse.Expr(s[:at] + s[at+1:k.At] + s[k.At+1:]); fault == api.OK && expr.Same(x, e) {
					t.Fatalf("%s: the brackets at %d and %d need not be", s, at, k.At)
				}
			}
		}
	}
	if taken < 5000 {
		t.Errorf("only %d brackets", taken)
	}
}

// 15.2: texts that are read, written and read again are the same; the text in one form is written.
func TestOneForm(t *testing.T) {
	for s, want := range map[string]string{
		"a: 1|(2|b.c);": "a: 1 | (2 | b.c);\n", "a:{x:1;...};": "a: {x: 1; ...};\n", // the chapter's examples
		"": "", " # x\n": "", "resource#x\nb:a\n.\nn;a:1;": "resource b: a.n;\na: 1;\n", "b:2;a:1;b:2;": "b: 2;\na: 1;\nb: 2;\n",
		"a: - 7; b: -0; c: >= - 5; d: <=# x\n5;": "a: -7;\nb: 0;\nc: >=-5;\nd: <=5;\n", "a: ((1)); b: (((a | b))) ;": "a: 1;\nb: a | b;\n", "a: (1 | 2); b: ((1 + 2) + 3) * (4 * 5);": "a: 1 | 2;\nb: (1 + 2 + 3) * (4 * 5);\n",
		"a: (b & c) | (d + e) | (f * g);": "a: b & c | d + e | f * g;\n", "a: 1--1; b: 1-(-1); c: 1+-1*-1;": "a: 1 - -1;\nb: 1 - -1;\nc: 1 + -1 * -1;\n", "a: {c: 1; b: {}; a_: (x); ...};": "a: {a_: x; b: {}; c: 1; ...};\n",
		`a: "\x41\x22\x5c\x0a\x00\"";`: `a: "A\"\\\n\x00\"";` + "\n", "a: any & bool & int & string & none & computed & true & false;": "a: any & bool & int & string & none & computed & true & false;\n",
		"resource web: {n: net.n;}; resource net: {n: 4;};": "resource web: {n: net.n;};\nresource net: {n: 4;};\n", "x: >=1 & <=9; x: 5 | 20;": "x: >=1 & <=9;\nx: 5 | 20;\n",
	} {
		l, _, fault := parse.Parse(s)
		got, e := show.File(l)
		if fault != api.OK || e != api.OK || got != want {
			t.Errorf("%q is written as %q %d, not %q", s, got, e, want)
		}
		again, _, fault := parse.Parse(got)
		if last, e := show.File(again); fault != api.OK || e != api.OK || !slices.EqualFunc(again, l, sameDecl) || last != got {
			t.Errorf("%q is read as %s %d, and written as %q", got, brief(again), fault, last)
		}
	}
}

// 15.2: a file of as many definitions as there may be is read again, and so is the longest text; one byte more is not.
func TestLongest(t *testing.T) {
	l := slices.Repeat([]api.Decl{{Name: "abcd", Res: false, E: ref("abcdefg")}}, 256)
	s, _ := show.File(l)
	if x, _, fault := parse.Parse(s); fault != api.OK || !slices.EqualFunc(x, l, sameDecl) {
		t.Errorf("a file of 256 definitions and %d bytes: %d", len(s), fault)
	}
	for more, want := range []api.Errno{api.OK, api.ErrLong} {
		e := kids(12, many(16, text(strings.Repeat("x", 251)))...)
		e.Kids[0].Text += strings.Repeat("x", more) + "xxx"
		s, fault := show.Expr(e)
		x, _, other := parse.Expr(s)
		if len(s) != 4096+more || fault != api.OK || other != want || (other == api.OK) != expr.Same(x, e) {
			t.Errorf("a text of %d bytes: %d %d", len(s), fault, other)
		}
	}
}
