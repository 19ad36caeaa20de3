package parse_test

import (
	"strings"
	"testing"

	"treillage/api"
	"treillage/expr"
	"treillage/parse"
	"treillage/token"
)

// 14.1: what is missing at each place of each rule, at the text's end, too, and what stands there that belongs to no rule.
func TestSyntax(t *testing.T) {
	for _, s := range []string{
		"a^", "a: ^", "a: 1^", "a: 1; b^", "resource^", "resource a^", "a: 1 # x ;^", "  a ^", "a: 1 \n^",
		"^: 1;", "^;", "^1: 1;", `^"a": 1;`, "^true: 1;", "^int: 1;", "^none: 1;", "^{a: 1;}", "^...", "^(a): 1;", "^-a: 1;",
		"a ^1;", "a^;", "a ^a: 1;", "a^.b: 1;", "a ^{};", "a ^true;", "a: ^;", "a: ^: 1;", "a: 1^", "a: 1 ^2;", "a: 1 ^b: 2;", "a: 1;^;", "a: 1;^; ", "a: 1 ^: 2;", "a: 1; ^}", "a: 1^}", "a: 1^)",
		"resource ^: 1;", "resource ^resource: 1;", "resource ^true: 1;", "resource ^1: 1;", "resource^;", "resource a^;", "resource a ^resource: 1;", "a ^resource: 1;", "resource ^...",
	} {
		refused(t, s, api.ErrSyntax)
	}
	for _, s := range []string{
		"^", "  ^", "# 1\n^", "^)", "^}", "^;", "^:", "^.", "^...", "^&1", "^|1", "^*1", "^+1", "^resource", "^resource a",
		"-^", "- ^", "-^-1", "-^a", "-^(1)", "-^true", "-^>=1", "- ^\"1\"", ">=^", ">= ^", ">=^a", ">=^(1)", ">=^>=1", ">=^<=1", ">=-^", ">=-^-1", ">=^+1", "<=^", "<=^int", "<=-^a", "<= ^\"1\"", ">=^.", ">=^...",
		"a.^", "a. ^", "a.^.b", "a.^1", "a.^true", "a.b.^int", "a.^resource", "a.^(b)", "a.^\"b\"", "a.^-1", "a^...", "true^.a", "int^.a", "computed^.a", "1^.a", "(a)^.b", "{}^.a", "\"a\"^.a", "none ^none", "a ^b", "1 ^2", "1 ^a", "a ^1", "a ^(1)", "a ^{}", "a ^\"b\"", "a ^true", "(1) ^2", "(1)^(2)", "{}^{}", "a ^resource",
		"(^", "(^)", "(1^", "(1 ^", "((1)^", "(1 ^2)", "(1^;)", "(1^}", "(1^:", "(^;", "(1 |^)", "({}^}", "(1)^)",
		"{^", "{ ^", "{^1;}", "{^;}", "{^)", "{^(a: 1;)}", "{^true: 1;}", "{^resource a: 1;}", "{^\"a\": 1;}", "{^-a}", "{^{}}", "{^.}", "{a^", "{a^}", "{a^;}", "{a ^1;}", "{a^.b: 1;}", "{a ^b: 1;}", "{a: ^", "{a: ^}", "{a: ^;}", "{a: 1^", "{a: 1^}", "{a: 1 ^b: 2;}", "{a: 1^)", "{a: 1; ^", "{a: 1;^;}", "{a: 1; b^}", "{a: 1; ^1}", "{a: 1; ^)", "{a: 1^...}", "{a: ^...}", "{a^...}",
		"{...^", "{... ^", "{...^;}", "{...^...}", "{... ^a: 1;}", "{...^)", "{a: 1; ...^", "{a: 1; ...^;}", "{a: 1; ... ^b: 2;}", "{a: 1; ... ^a: 2;}", "{...^.}", "{^. . .}", "{a: 1; ^..}",
		"1 |^", "1 | ^", "1 |^|2", "1 |^&2", "1 | ^)", "1 |^;", "1 |^+2", "1 &^", "1 &^|2", "1 &^&2", "1 & ^*2", "1 +^", "1 +^+2", "1 + ^*2", "1 +^|2", "1 + ^;", "1 -^", "1 --^", "1 - -^a", "1 -^+2", "1 *^", "1 *^*2", "1 * ^+2", "1 *^&2", "1 + 2 *^", "1 | 2 & 3 + 4 * ^)", "a & ^resource", "1^:", "1 ^:2",
	} {
		refusedExpr(t, s, api.ErrSyntax)
	}
}

// 14.1: a text that has the bytes of a sign, or of a word, is a text, and stands for none of them.
func TestTextsLikeSigns(t *testing.T) {
	for _, s := range []string{":", ";", "{", "}", "(", ")", "&", "|", "+", "-", "*", ">=", "<=", "...", ".", "resource", "true", "int", "computed", "a", "1", ""} {
		q := token.Quote(s)
		reads(t, q, text(s))
		reads(t, q+" | "+q, kids(12, text(s), text(s)))
		refused(t, "^"+q+" a: 1;", api.ErrSyntax)
		refused(t, "^"+q+": 1;", api.ErrSyntax)
		refused(t, "resource ^"+q+": 1;", api.ErrSyntax)
		refused(t, "a ^"+q+" 1;", api.ErrSyntax)
		refused(t, "a: 1^"+q, api.ErrSyntax)
		for _, c := range []string{"1 ^@ 2", "a ^@ b", "-^@", ">=^@ 1", ">= - ^@", "(1 ^@", "{^@", "{^@: 1;}", "{a ^@ 1;}", "{a: 1 ^@}", "{a: 1; ^@}", "{a: 1; ... ^@"} {
			refusedExpr(t, strings.ReplaceAll(c, "@", q), api.ErrSyntax)
		}
	}
}

// 14.1: Expr of a text with something behind the join.
func TestBehindExpr(t *testing.T) {
	for _, behind := range []string{";", ":", ")", "}", "...", ".", "1", "a", "true", "resource", `"x"`, "(", "{", ">=", "; a: 1;"} {
		for _, s := range []string{"1", "a.b & {x: c;}", "(1 | 2)", "{}", "1 + 2"} {
			place := len(s) + 1
			if x, at, e := parse.Expr(s + " " + behind); at != place || e != api.ErrSyntax || !expr.Same(x, api.Expr{}) {
				t.Errorf("Expr(%q): %s %d %d", s+" "+behind, show(x), at, e)
			}
		}
	}
}

// 14.1: what Lex refuses, wherever it stands, also behind what the rules refuse, or what is too long or too deep.
func TestLexFirst(t *testing.T) {
	for _, c := range []struct {
		s string
		e api.Errno
	}{
		{"a: ^9007199254740993;", api.ErrOver}, {"a: -^9007199254740993;", api.ErrOver}, {"a: >= -^9007199254740993;", api.ErrOver}, {"a: <=^99999999999999999999;", api.ErrOver}, {"a: 1 - ^9007199254740993;", api.ErrOver},
		{"a: ^007;", api.ErrToken}, {"a: 1 ^> 2;", api.ErrToken}, {"a: ^A;", api.ErrToken}, {"a: ^\"x;", api.ErrToken}, {"^abcdefghijklmnopq: 1;", api.ErrToken}, {"^\xff", api.ErrToken}, {"a: 1^,b", api.ErrToken}, {"^$", api.ErrToken},
		{"a: ^\"" + strings.Repeat("x", 257) + "\";", api.ErrLong},
		{"; ^$", api.ErrToken}, {"a a a ^00", api.ErrToken}, {"a: ; b: ^9007199254740993", api.ErrOver}, {"a: ^007; b: 9007199254740993;", api.ErrToken}, {strings.Repeat("(", 20) + "^?", api.ErrToken}, {strings.Repeat("a:1;", 257) + "^?", api.ErrToken}, {"a: {a: 1; a: 2;}; ^_", api.ErrToken}, {"a: 1" + strings.Repeat("+1", 20) + "; ^@", api.ErrToken},
		{"^" + strings.Repeat(" ", 4097), api.ErrLong}, {"^;" + strings.Repeat(" ", 4096), api.ErrLong}, {"^$" + strings.Repeat(" ", 4096), api.ErrLong},
	} {
		refused(t, c.s, c.e)
	}
	for _, c := range []struct {
		s string
		e api.Errno
	}{
		{"^9007199254740993", api.ErrOver}, {"-^9007199254740993", api.ErrOver}, {"1 + 2; ^00", api.ErrToken}, {") ^A", api.ErrToken}, {"^\"" + strings.Repeat("x", 257) + "\"", api.ErrLong}, {"1" + strings.Repeat("+1", 20) + " ^$", api.ErrToken}, {"^)" + strings.Repeat(" ", 4096), api.ErrLong},
	} {
		refusedExprAlone(t, c.s, c.e)
	}
	files(t, "a: 1;"+strings.Repeat(" ", 4091), api.Decl{Name: "a", E: number(1)})
	if x, _, e := parse.Expr("1" + strings.Repeat("\n", 4095)); e != api.OK || !expr.Same(x, number(1)) {
		t.Errorf("Expr of 4096 bytes: %d", e)
	}
}

// refusedExprAlone fails, if Expr does not refuse a text with an error, at the place at which the mark ^ stands.
func refusedExprAlone(t *testing.T, s string, want api.Errno) {
	t.Helper()
	place := strings.Index(s, "^")
	s = s[:place] + s[place+1:]
	if x, at, e := parse.Expr(s); !expr.Same(x, api.Expr{}) || at != place || e != want {
		t.Errorf("Expr(%.120q): %s %d %d, not %d %d", s, show(x), at, e, place, want)
	}
}
