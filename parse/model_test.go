package parse_test

import (
	"slices"
	"strings"
	"testing"

	"treillage/api"
	"treillage/expr"
	"treillage/name"
	"treillage/parse"
	"treillage/token"
)

// rules are the chapter's, each word of which is a rule or a token; what may come as often as it is has a rule of its own, the name of which ends in s.
func rules() map[string][]string {
	return map[string][]string{
		"FILE": {"", "resource NAME : JOIN ; FILE", "NAME : JOIN ; FILE"},
		"JOIN": {"MEET JOINs"}, "JOINs": {"", "| MEET JOINs"},
		"MEET": {"SUM MEETs"}, "MEETs": {"", "& SUM MEETs"},
		"SUM": {"PROD SUMs"}, "SUMs": {"", "+ PROD SUMs", "- PROD SUMs"},
		"PROD": {"UNIT PRODs"}, "PRODs": {"", "* UNIT PRODs"},
		"UNIT":  {"WHOLE", "TEXT", "true", "false", "any", "bool", "int", "string", "none", "computed", ">= WHOLE", "<= WHOLE", "NAME NAMEs", "( JOIN )", "{ PAIRs }", "{ PAIRs ... }"},
		"WHOLE": {"INT", "- INT"}, "NAMEs": {"", ". NAME NAMEs"}, "PAIRs": {"", "NAME : JOIN ; PAIRs"},
	}
}

// machine is a set of stacks, each of what may still come; it goes on with all of them at once, and so knows nothing of how a parser chooses.
type machine struct {
	rules  map[string][]string
	stacks map[string]bool // those that begin with a token, or are empty
}

// started is a machine that is to read by a rule.
func started(rule string) *machine {
	m := &machine{rules: rules(), stacks: map[string]bool{}}
	m.push(rule)
	return m
}

// push takes a stack, and puts in its place those to which its first word may become.
func (m *machine) push(stack string) {
	first, rest, _ := strings.Cut(stack, " ")
	l, ok := m.rules[first]
	if !ok {
		m.stacks[stack] = true
	}
	for _, s := range l {
		m.push(strings.Trim(s+" "+rest, " "))
	}
}

// step goes on behind a token; false, if the rules go on no more with it.
func (m *machine) step(word string) bool {
	was := m.stacks
	m.stacks = map[string]bool{}
	for s := range was {
		if first, rest, _ := strings.Cut(s, " "); first == word {
			m.push(rest)
		}
	}
	return len(m.stacks) > 0
}

// word is what a token is in the rules.
func word(t token.Token) string {
	switch {
	case t.Kind == token.Int:
		return "INT"
	case t.Kind == token.Text:
		return "TEXT"
	case t.Kind == token.Name && name.Word(t.Text) == 0:
		return "NAME"
	}
	return t.Text
}

// model is where and why the rules go on no more with a text that is within all limits.
func model(rule, s string) (int, api.Errno) {
	l, at, e := token.Lex(s)
	if e != api.OK {
		return at, e
	}
	m := started(rule)
	for _, t := range l {
		if !m.step(word(t)) {
			return t.At, api.ErrSyntax
		}
	}
	if !m.stacks[""] {
		return len(s), api.ErrSyntax
	}
	return 0, api.OK
}

// limited tells whether an error is one of those that the machine knows nothing of.
func limited(e api.Errno) bool { return e == api.ErrLong || e == api.ErrThere || e == api.ErrDepth }

// held fails, if a text is not refused as the machine tells, or if what is read may not be, or does not come back from its text. It tells the file's error.
func held(t *testing.T, s string) api.Errno {
	t.Helper()
	l, at, e := parse.Parse(s)
	if want, wantE := model("FILE", s); (at != want || e != wantE) && !limited(e) {
		t.Fatalf("Parse(%q): %d %d, not %d %d", s, at, e, want, wantE)
	}
	x, at, f := parse.Expr(s)
	if want, wantE := model("JOIN", s); (at != want || f != wantE) && !limited(f) {
		t.Fatalf("Expr(%q): %d %d, not %d %d", s, at, f, want, wantE)
	}
	if e != api.OK && len(l) != 0 || f != api.OK && !expr.Same(x, api.Expr{}) {
		t.Fatalf("%q: something is told beside an error: %v %v", s, l, x)
	}
	again, _, g := parse.Parse(fileText(l))
	if g != api.OK || !slices.EqualFunc(again, l, sameDecl) {
		t.Fatalf("%q: read again as %v, not %v", fileText(l), again, l)
	}
	for _, d := range l {
		if expr.Check(d.E) != api.OK || !name.Right(d.Name) {
			t.Fatalf("%q: read as %v, which may not be", s, d)
		}
	}
	if f == api.OK {
		if again, _, g := parse.Expr(exprText(x, 0, nil)); g != api.OK || expr.Check(x) != api.OK || !expr.Same(again, x) {
			t.Fatalf("%q: read as %v, again as %v", s, x, again)
		}
	}
	return e
}

// pieces are the tokens, of each kind some, and all words.
func pieces() []string {
	return []string{"a", "b", "c", "n_1", "1", "-", "0", "9007199254740992", `"x"`, `""`, "resource", "true", "false", "any", "bool", "int", "string", "none", "computed", ">=", "<=", "(", ")", "{", "}", "...", ".", ":", ";", "|", "&", "+", "*"}
}

// 14.1: all texts of up to three tokens, at the begin, and at places within a file.
func TestAllShort(t *testing.T) {
	for _, first := range []string{"", "a : ", "a : {", "a : {b: 1; ", "a : (1 ", "a : - ", "a: b "} {
		n := 2
		if first == "" {
			n = 3
		}
		var longer func(s string, n int)
		longer = func(s string, n int) {
			held(t, s)
			for _, p := range pieces() {
				if n > 0 {
					longer(s+p+" ", n-1)
				}
			}
		}
		longer(first, n)
	}
}

// 14.1, 14.2: files that are right, out of which tokens are taken, in which they come twice or as others, or which end ahead of one.
func TestTurned(t *testing.T) {
	seen := map[api.Errno]int{}
	for i := range 400 {
		d := new(dice(i))
		var l []string
		for range 1 + d.roll(2) {
			l = append(l, declTokens(rolledDecl(d, 1+d.roll(3)), d)...)
		}
		if e := held(t, spaced(l, d)); e != api.OK {
			t.Fatalf("Parse(%q): %d", l, e)
		}
		for at := range l {
			other := pieces()[d.roll(len(pieces()))]
			for _, m := range [][]string{slices.Delete(slices.Clone(l), at, at+1), slices.Insert(slices.Clone(l), at, l[at]), slices.Insert(slices.Clone(l), at, other), slices.Replace(slices.Clone(l), at, at+1, other), l[:at], l[at:]} {
				seen[held(t, spaced(m, d))]++
			}
		}
	}
	if seen[api.OK] < 500 || seen[api.ErrSyntax] < 500 || seen[api.ErrThere] < 5 {
		t.Errorf("too few of some kind: %v", seen)
	}
}

// 14.1: any tokens, and any bytes.
func TestRolled(t *testing.T) {
	for i := range 20000 {
		d := new(dice(i))
		var l []string
		for range d.roll(12) {
			l = append(l, pieces()[d.roll(len(pieces()))])
		}
		held(t, spaced(l, d))
		held(t, "a: "+spaced(l, d)+";")
		b := make([]byte, d.roll(20))
		for j := range b {
			b[j] = byte(d.roll(256))
		}
		held(t, string(b))
		held(t, spaced(l, d)+string(b))
	}
}
