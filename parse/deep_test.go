package parse_test

import (
	"strings"
	"testing"

	"treillage/api"
	"treillage/expr"
	"treillage/parse"
)

// 14.1: expressions 16 deep are read; deeper ones are told at their first token.
func TestDeep(t *testing.T) {
	for sign, o := range map[string]int{"+": 13, "-": 14, "*": 15} {
		for n := 2; n <= 16; n++ {
			readsAlone(t, row(n, "1", sign), leftmost(o, n))
		}
		for _, n := range []int{17, 18, 100, 1000} {
			s := row(n, "1", sign)
			refusedExprAlone(t, "^"+s, api.ErrDepth)
			refusedExprAlone(t, " # 1\n^("+s+")", api.ErrDepth)
			refused(t, "a: 1; resource b:\n ^"+s+"; c: ;", api.ErrDepth)
			refused(t, "a: ^-"+s+";", api.ErrDepth)
			refused(t, "a: ^{x: "+s+";};", api.ErrDepth)
			refused(t, "a: ^((1 | "+s+") & 2);", api.ErrDepth)
		}
		// In a struct's pair it is one deeper; in brackets it is not.
		readsAlone(t, "{x: "+row(15, "1", sign)+";}", record(pair("x", leftmost(o, 15))))
		refusedExprAlone(t, "^{x: "+row(16, "1", sign)+";}", api.ErrDepth)
		readsAlone(t, "(((((("+row(16, "1", sign)+"))))))", leftmost(o, 16))
		readsAlone(t, "0 | "+row(15, "1", sign), kids(12, number(0), leftmost(o, 15)))
		refusedExprAlone(t, "^0 | "+row(16, "1", sign), api.ErrDepth)
	}
	first, last, want := within(row(15, "{", ""), number(1))
	readsAlone(t, first+"1"+last, want)
	for _, inner := range []string{"1", "a.b", "(1)", "{}"} {
		first, last, _ = within(row(16, "{", ""), number(1))
		if inner == "{}" || inner == "(1)" {
			refusedExprAlone(t, first+"^"+inner+last, api.ErrDepth)
		} else {
			refusedExprAlone(t, "^"+first+inner+last, api.ErrDepth)
		}
	}
}

// 14.1: what is too deep is told as soon as it ends: behind all that is wrong in it, ahead of all that is wrong behind it.
func TestDeepAndMore(t *testing.T) {
	deep := row(17, "1", "+")
	for _, behind := range []string{";", "", " ", ")", "}", ": 1;", " 1;", " a: 1;", "; b: ;", ";;", "; 1", " resource", "; b: {a: 1; a: 2;};", "; b: " + deep + ";", "; b: " + row(20, "(", ""), ".a;", " ...", " {}", "; a.b"} {
		refused(t, "a: ^"+deep+behind, api.ErrDepth)
		refused(t, "b: 1; a: ^2 & ("+deep+")"+behind, api.ErrDepth)
		refusedExprAlone(t, "^"+deep+behind, api.ErrDepth)
		refusedExprAlone(t, "\n^{x: "+deep+";}"+behind, api.ErrDepth)
	}
	for s, e := range map[string]api.Errno{
		"+^": api.ErrSyntax, "+^;": api.ErrSyntax, "*^)": api.ErrSyntax, " | ^+1": api.ErrSyntax, "& {a: 1; ^a: 2;}": api.ErrThere, "- " + row(16, "b", ".") + ".^b": api.ErrLong, "|" + row(31, "1", "|") + "^|": api.ErrLong, " - -^a": api.ErrSyntax, "+ >=^x": api.ErrSyntax, "+(1^;": api.ErrSyntax, "+ {^true: 1;}": api.ErrSyntax,
	} {
		refusedExpr(t, deep+s, e)
		refusedExpr(t, "{x: "+deep+"; y: "+deep+s, e)
	}
	for s, e := range map[string]api.Errno{"^; a": api.ErrSyntax, "a ^1; a": api.ErrSyntax, "a: {b: 1; ^b: 2;}; a": api.ErrThere, "a: " + row(16, "(", "") + "^(; a": api.ErrDepth, "resource ^": api.ErrSyntax} {
		refused(t, s+": "+deep+";", e)
	}
	refusedExpr(t, deep+"+"+row(16, "(", "")+"^(", api.ErrDepth)
	refused(t, "a: ("+deep+"^;", api.ErrSyntax)
	refused(t, "a: {x: "+deep+"^}", api.ErrSyntax)
	refused(t, "a: {x: "+deep+";^", api.ErrSyntax)
	refused(t, "a: "+deep+"; ^$", api.ErrToken)
	refused(t, "^a: "+deep+";"+strings.Repeat(" ", 4096), api.ErrLong)
}

// R1: the greatest texts of all sorts end.
func TestEnds(t *testing.T) {
	for _, piece := range []string{"(", "{", "{a:", "({a:", "a.", "1+", "1-", "1*", "-", "1|", "1&", "a:1;", "resource ", "...", ")", ";", ">=", "(1)+", "1|1&", "{}|", "\"", "\\", "#", "a", "9", "\xff"} {
		for _, n := range []int{4096, 4097, 1 << 20} {
			s := strings.Repeat(piece, n/len(piece)+1)[:n]
			for _, first := range []string{"", "a:", "a:{b:"} {
				s := (first + s)[:n]
				if l, at, e := parse.Parse(s); e == api.OK && s[0] != '#' || at > n || len(l) != 0 || e != api.ErrLong && n > 4096 {
					t.Errorf("Parse of %d bytes, %.10q: %d definitions, %d %d", n, s, len(l), at, e)
				}
				if x, at, e := parse.Expr(s); e == api.OK || at > n || !expr.Same(x, api.Expr{}) || e != api.ErrLong && n > 4096 {
					t.Errorf("Expr of %d bytes, %.10q: %s, %d %d", n, s, show(x), at, e)
				}
			}
		}
	}
}
