package parse_test

import (
	"fmt"
	"slices"
	"strings"
	"testing"

	"treillage/api"
	"treillage/expr"
	"treillage/parse"
)

// readsAlone fails, if a join is not read as an expression, alone and as a definition.
func readsAlone(t *testing.T, s string, want api.Expr) {
	t.Helper()
	if x, at, e := parse.Expr(s); e != api.OK || at != 0 || !expr.Same(x, want) {
		t.Errorf("Expr(%.80q, of %d bytes): %s %d %d, not %s", s, len(s), show(x), at, e, show(want))
	}
	files(t, "resource x: "+s+";", api.Decl{Name: "x", Res: true, E: want})
}

// row is n times the same, with something between each two.
func row(n int, s, between string) string {
	return strings.Join(slices.Repeat([]string{s}, n), between)
}

// numbered are the texts of n pairs, the last name first.
func numbered(n int) string {
	var b strings.Builder
	for i := n - 1; i >= 0; i-- {
		fmt.Fprintf(&b, "n%02d:%d;", i, i)
	}
	return b.String()
}

// numberedPairs are what those are read as.
func numberedPairs(n int) []api.Pair {
	var l []api.Pair
	for i := range n {
		l = append(l, pair(fmt.Sprintf("n%02d", i), number(i)))
	}
	return l
}

// leftmost is what n ones with a sign between each two are read as.
func leftmost(o, n int) api.Expr {
	e := number(1)
	for range n - 1 {
		e = kids(o, e, number(1))
	}
	return e
}

// within is an expression in a row of brackets, ( as it is, { as a struct's only pair; and what stands ahead of it and behind.
func within(brackets string, e api.Expr) (first, last string, want api.Expr) {
	for i := len(brackets) - 1; i >= 0; i-- {
		if brackets[i] == '(' {
			first, last = "("+first, last+")"
		} else {
			first, last, e = "{a:"+first, last+";}", record(pair("a", e))
		}
	}
	return first, last, e
}

// 14.1: brackets stand 16 deep in one another, of both kinds; the one that is too deep is told at its place, whatever stands behind it.
func TestBrackets(t *testing.T) {
	round, curly := row(16, "(", ""), row(16, "{", "")
	for _, l := range []string{round, curly, row(8, "({", ""), row(8, "{(", ""), round[:8] + curly[:8], curly[:8] + round[:8], "(" + curly[:15], round[:15] + "{"} {
		first, last, want := within(l[:15], record())
		readsAlone(t, first+"{}"+last, want)
		first, last, want = within(l[:15], number(1))
		readsAlone(t, first+"(1)"+last, want)
		first, last, _ = within(l, number(1))
		refusedExpr(t, first+"^", api.ErrSyntax)
		refusedExpr(t, first+"^)", api.ErrSyntax)
		for _, behind := range []string{"", "1)" + last, "1", ")", ";", ": (", "true: 1;", "resource", "(((", "{{", "...}", "a: 1;}" + last, "a: 1; a: 2;}"} {
			refusedExpr(t, first+"^("+behind, api.ErrDepth)
			refusedExpr(t, first+"^{"+behind, api.ErrDepth)
			refusedExpr(t, first+"1 +^("+behind, api.ErrDepth)
			refusedExpr(t, first+"a & b.c | ^{"+behind, api.ErrDepth)
		}
	}
	// A bracket is too deep just where one may stand, and those that were ended count no more.
	first, last, _ := within(round, number(1))
	refusedExpr(t, first+"1 ^("+last, api.ErrSyntax)
	refusedExpr(t, first+"-^(1)"+last, api.ErrSyntax)
	readsAlone(t, row(32, first+"1"+last, "|"), kids(12, slices.Repeat([]api.Expr{number(1)}, 32)...))
	refusedExpr(t, first+"1"+last+" & "+first+"^(1)"+last, api.ErrDepth)
}

// 14.1: paths of up to 16 names; one more is told at its name, if it is one.
func TestPaths(t *testing.T) {
	for n := 1; n <= 16; n++ {
		reads(t, row(n, "ab", "."), ref(slices.Repeat([]string{"ab"}, n)...))
	}
	full := row(16, "ab", ".")
	for _, behind := range []string{"", ".", ".c", ".d.e", " 1", ")", ".true", "...", ": 1;"} {
		refusedExpr(t, full+".^c"+behind, api.ErrLong)
		refusedExpr(t, "{x: 1 | "+full+" . ^c"+behind, api.ErrLong)
	}
	for _, s := range []string{"^", "^true", "^resource", "^.c", "^1", "^-c", "^(c)", "^\"c\"", " ^...", "^;"} {
		refusedExpr(t, full+"."+s, api.ErrSyntax)
	}
	reads(t, full+" + "+full, kids(13, ref(slices.Repeat([]string{"ab"}, 16)...), ref(slices.Repeat([]string{"ab"}, 16)...)))
}

// 14.1: structs of up to 32 pairs, with the dots and without; one more is told at its name, whatever stands behind it.
func TestPairs(t *testing.T) {
	for _, n := range []int{1, 2, 31, 32} {
		reads(t, "{"+numbered(n)+"}", record(numberedPairs(n)...))
		reads(t, "{"+numbered(n)+"...}", open(numberedPairs(n)...))
	}
	full := "{" + numbered(32)
	for _, behind := range []string{": 1;}", ": 1; ...}", "", "}", ";", " 1", ": 1; n00: 2;}", ": {a: 1; a: 2;};}", ": )", "...}"} {
		refusedExpr(t, full+"^x"+behind, api.ErrLong)
		refusedExpr(t, "1 & ({y: "+full+" ^a"+behind, api.ErrLong)
	}
	for _, s := range []string{"^", "^1: 1;}", "^true: 1;}", "^resource x: 1;}", "^;}", "^)", "^: 1;}", "...^x: 1;}", "...^n00: 1;}", "... ^..."} {
		refusedExpr(t, full+s, api.ErrSyntax)
	}
	// How many a struct has does not hang on those in it, or around it.
	reads(t, "{a: {"+numbered(32)+"}; b: {"+numbered(32)+"}; ...}", open(pair("a", record(numberedPairs(32)...)), pair("b", record(numberedPairs(32)...))))
	refusedExpr(t, "{a: {"+numbered(32)+"}; "+numbered(31)+"^b: 1;}", api.ErrLong)
}

// 14.1: a name comes once in a struct; the second one is told, also where it is the one that is one too many.
func TestTwice(t *testing.T) {
	for _, behind := range []string{": 1;}", ": 1; ...}", "", "}", ";", " 1", ": 1; a: 2;}", ": )", "...}"} {
		refusedExpr(t, "{a: 1; ^a"+behind, api.ErrThere)
		refusedExpr(t, "{a: 1; b: 2; c: 3; ^b"+behind, api.ErrThere)
		refusedExpr(t, "{c: 1; b: {a: 1; b: {}; c: 2;}; ^c"+behind, api.ErrThere)
		refusedExpr(t, "{c: 1; b: {a: 1; ^a"+behind, api.ErrThere)
		for _, s := range []string{"n00", "n15", "n31"} {
			refusedExpr(t, "{"+numbered(32)+"^"+s+behind, api.ErrThere)
		}
		refusedExpr(t, "{"+strings.TrimSuffix(numbered(32), "n00:0;")+"^n31"+behind, api.ErrThere)
	}
	reads(t, "{a: {a: 1;}; b: {a: 2; b: a;};}", record(pair("a", record(pair("a", number(1)))), pair("b", record(pair("a", number(2)), pair("b", ref("a"))))))
	refusedExpr(t, "{a: 1; ...^a: 1;}", api.ErrSyntax)
	// Of a file's definitions several may have the same name.
	files(t, "a: 1; a: 1; a: {a: 1;};", api.Decl{Name: "a", E: number(1)}, api.Decl{Name: "a", E: number(1)}, api.Decl{Name: "a", E: record(pair("a", number(1)))})
}

// 14.1: joins and meets of up to 32 Kids; one more is told at the sign ahead, whatever stands behind it.
func TestKids(t *testing.T) {
	for sign, o := range map[string]int{"|": 12, "&": 11} {
		for _, n := range []int{2, 3, 31, 32} {
			want := kids(o, slices.Repeat([]api.Expr{number(1)}, n)...)
			reads(t, row(n, "1", sign), want)
			readsAlone(t, row(3, "("+row(n, "1", sign)+")", " "+sign+" "), kids(o, want, want, want))
		}
		full := row(32, "1", sign)
		for _, behind := range []string{"1", "", " 1 " + sign + " 1", ")", ";", sign, "(", "true", "-", "{a: 1; a: 2;}", row(20, "(", "")} {
			refusedExpr(t, full+"^"+sign+behind, api.ErrLong)
			refusedExpr(t, "{x: ("+full+" ^"+sign+behind, api.ErrLong)
		}
		for _, behind := range []string{"^)", "^1", "^...", "^:"} {
			refusedExpr(t, full+" "+behind, api.ErrSyntax)
		}
		refused(t, "x: "+full+"^", api.ErrSyntax)
	}
	thirty := kids(11, slices.Repeat([]api.Expr{number(1)}, 32)...)
	readsAlone(t, row(32, row(32, "1", "&"), "|"), kids(12, slices.Repeat([]api.Expr{thirty}, 32)...))
	refusedExpr(t, row(31, row(32, "1", "&"), "|")+"|"+row(32, "1", "&")+"^|1", api.ErrLong)
	refusedExpr(t, row(31, row(32, "1", "&"), "|")+"|"+row(32, "1", "&")+"^&1", api.ErrLong)
}

// 14.1: 256 definitions; the first token behind them is told, whatever it is.
func TestNodes(t *testing.T) {
	full := row(256, "a:1;", "")
	files(t, full, slices.Repeat([]api.Decl{{Name: "a", E: number(1)}}, 256)...)
	files(t, full+" # b: 1;\n", slices.Repeat([]api.Decl{{Name: "a", E: number(1)}}, 256)...)
	files(t, full[4:]+"resource b: a;", append(slices.Repeat([]api.Decl{{Name: "a", E: number(1)}}, 255), api.Decl{Name: "b", Res: true, E: ref("a")})...)
	for _, s := range []string{"a:1;", "b", "resource", "resource c: 1;", "true", "1", `"x"`, ";", ":", "{", "}", "(", ")", "&", "|", "+", "-", "*", ">=", "<=", "...", ".", row(20, "(", ""), "a:1;" + full, "a: {b: 1; b: 2;};"} {
		refused(t, full+"^"+s, api.ErrLong)
		refused(t, full+" # x\n ^"+s, api.ErrLong)
	}
	refused(t, full[4:]+"^;", api.ErrSyntax)
	refused(t, full[4:]+"b: 1^", api.ErrSyntax)
	refused(t, full[4:]+"b: ^"+row(17, "1", "+")+";;", api.ErrDepth)
}
