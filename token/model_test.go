package token_test

import (
	"regexp"
	"slices"
	"strconv"
	"strings"
	"testing"

	"treillage/api"
	"treillage/token"
)

// What the chapter's words tell of the front of a text.
var (
	blanks  = regexp.MustCompile(`^(?:[ \t\n\r]|#[^\n]*)*`)
	numbers = regexp.MustCompile(`^[0-9]+`)
	names   = regexp.MustCompile(`^[a-z][a-z0-9_]*`)
	texts   = regexp.MustCompile(`^"(?:[ !#-\[\]-~]|\\["\\n]|\\x[0-9a-f][0-9a-f])*"`)
	marks   = regexp.MustCompile(`^(?:\.\.\.|[><]=|[:;{}()&|+*.-])`)
)

// model is what the chapter's words tell of the token at a place.
func model(s string, at int) (token.Token, int, api.Errno) {
	at += len(blanks.FindString(s[at:]))
	rest := s[at:]
	if rest == "" {
		return end(at), at, api.OK
	}
	if m := numbers.FindString(rest); m != "" {
		n, err := strconv.Atoi(m)
		switch {
		case m[0] == '0' && m != "0":
			return token.Token{}, at, api.ErrToken
		case err != nil || n > 1<<53:
			return token.Token{}, at, api.ErrOver
		}
		return number(n, at), at + len(m), api.OK
	}
	if m := names.FindString(rest); m != "" && len(m) <= 16 {
		return word(m, at), at + len(m), api.OK
	}
	if m := texts.FindString(rest); m != "" {
		// What a part of the language is, is one of Go's, too.
		meant, err := strconv.Unquote(m)
		switch {
		case err != nil:
			panic(m)
		case len(meant) > 256:
			return token.Token{}, at, api.ErrLong
		}
		return text(meant, at), at + len(m), api.OK
	}
	if m := marks.FindString(rest); m != "" {
		return sign(m, at), at + len(m), api.OK
	}
	return token.Token{}, at, api.ErrToken
}

// byHand is what the chapter's words tell of all tokens of a text that is not too long.
func byHand(s string) (l []token.Token, at int, e api.Errno) {
	for {
		t, next, e := model(s, at)
		if e != api.OK {
			return nil, next, e
		}
		if t.Kind == token.End {
			return l, 0, api.OK
		}
		l, at = append(l, t), next
	}
}

// dice are numbers that have no order to be seen.
type dice uint32

// roll is a number from 0 up to below n.
func (d *dice) roll(n int) int {
	*d = *d*1664525 + 1013904223
	return int(uint32(*d)>>8) % n
}

// pieces are what rolled texts are made of.
func pieces() []string {
	return slices.Concat(signs(), words(), signs(), []string{" ", " ", "\t", "\n", "\r", "#", "# x\n", "0", "1", "23", "00", top, above, "a", "b_", "_", "A", "z9", "abcdefgh", `"`, `"a"`, `"\n"`, `"\x7e\\"`, `\`, `\"`, `\x`, "x0f", `"` + strings.Repeat("y", 129), "=", ">", "<", "\x00", "\x7f", "\xc3\xa9", "\xff"})
}

// rolled is a text of so many pieces.
func rolled(d *dice, n int) string {
	l := pieces()
	var b strings.Builder
	for range n {
		b.WriteString(l[d.roll(len(l))])
	}
	return b.String()
}

// 12.1, 12.2: rolled texts, at each of their places, held against the chapter's words.
func TestRolled(t *testing.T) {
	seen := map[api.Errno]int{}
	for i := range 5000 {
		s := rolled(new(dice(i)), 1+i%9)
		want, at, e := byHand(s)
		lex(t, s, want, at, e)
		seen[e]++
		for at := range len(s) + 1 {
			want, behind, e := model(s, at)
			next(t, s, at, want, behind, e)
		}
		if t.Failed() {
			t.Fatalf("at text %d", i)
		}
	}
	if seen[api.OK] < 500 || seen[api.ErrToken] < 500 || seen[api.ErrOver] < 50 {
		t.Errorf("too few of some kind: %v", seen)
	}
}

// 12.1, 12.2: all texts of up to five of those bytes that say something to one another.
func TestAllShort(t *testing.T) {
	var longer func(s string, n int)
	longer = func(s string, n int) {
		want, at, e := byHand(s)
		lex(t, s, want, at, e)
		for b := 0; n > 0 && b < 14; b++ {
			longer(s+"a0_.>=\"\\xn# \n\xff"[b:b+1], n-1)
		}
	}
	longer("", 4)
	longer("\"\\", 4)
	longer("\"\\x", 4)
	longer("..", 3)
}

// shortest is the token Text of a text by the chapter's words.
func shortest(s string) string {
	b := `"`
	for i := range len(s) {
		switch c := s[i]; {
		case c == '"':
			b += `\"`
		case c == '\\':
			b += `\\`
		case c == '\n':
			b += `\n`
		case c < 32 || c > 126:
			b += `\x` + string("0123456789abcdef"[c>>4]) + string("0123456789abcdef"[c&15])
		default:
			b += string(rune(c))
		}
	}
	return b + `"`
}

// quoted fails, if a text is not quoted as it should be, or if what is quoted is not one token of that text.
func quoted(t *testing.T, s, want string) {
	t.Helper()
	q := token.Quote(s)
	if q != want {
		t.Errorf("Quote(%s): %s, not %s", cut(s), cut(q), cut(want))
	}
	if len(s) > 256 {
		wrong(t, q, 0, api.ErrLong)
		return
	}
	next(t, q, 0, text(s, 0), len(q), api.OK)
	next(t, "a "+q+"b", 1, text(s, 2), len(q)+2, api.OK)
	if len(q) <= 4096 {
		lex(t, q, []token.Token{text(s, 0)}, 0, api.OK)
		lex(t, q[:len(q)-1], nil, 0, api.ErrToken)
	}
}

// 12.2, 12.3: what is quoted, by hand.
func TestQuoteByHand(t *testing.T) {
	for s, want := range map[string]string{
		"": `""`, "a": `"a"`, "a b": `"a b"`, `"`: `"\""`, `\`: `"\\"`, "\n": `"\n"`, "\t": `"\x09"`, "\r": `"\x0d"`, "\x00": `"\x00"`, "\x1f": `"\x1f"`, " ": `" "`, "~": `"~"`, "\x7f": `"\x7f"`, "\x80": `"\x80"`, "\xff": `"\xff"`, "\xab": `"\xab"`, "é": `"\xc3\xa9"`, "'": `"'"`, "#": `"#"`,
		`\n`: `"\\n"`, `\x41`: `"\\x41"`, `"a"`: `"\"a\""`, "\x00" + "41": `"\x0041"`, "a\nb\\c\"d\xfe": `"a\nb\\c\"d\xfe"`, "true": `"true"`,
	} {
		quoted(t, s, want)
	}
}

// 12.2, 12.3: each byte, alone and between others; texts of many lengths, also such as are too long for a token; rolled ones.
func TestQuote(t *testing.T) {
	var every strings.Builder
	for b := range 256 {
		one := string([]byte{byte(b)})
		every.WriteString(one)
		quoted(t, one, shortest(one))
		quoted(t, "0"+one+"f", shortest("0"+one+"f"))
		quoted(t, one+one, shortest(one+one))
	}
	quoted(t, every.String(), shortest(every.String()))
	for _, n := range []int{2, 255, 256, 257, 258, 1000, 5000} {
		for _, one := range []string{"x", "\"", "\\", "\n", "\x00", "\xff"} {
			quoted(t, strings.Repeat(one, n), shortest(strings.Repeat(one, n)))
		}
	}
	for i := range 2000 {
		s := rolled(new(dice(i)), i%12)
		quoted(t, s, shortest(s))
	}
}

// 12.2: of all parts that mean a byte the one that it is quoted with is as short as can be.
func TestQuoteShortest(t *testing.T) {
	least := map[string]int{}
	for b := range 256 {
		one := string([]byte{byte(b)})
		for _, part := range []string{one, `\` + one, `\x` + strconv.FormatInt(int64(0x100+b), 16)[1:]} {
			got, n, e := token.Next(`"`+part+`"`, 0)
			if e != api.OK || n != len(part)+2 {
				continue
			}
			if was, ok := least[got.Text]; !ok || len(part) < was {
				least[got.Text] = len(part)
			}
		}
	}
	for b := range 256 {
		one := string([]byte{byte(b)})
		if q := token.Quote(one); len(q) != least[one]+2 {
			t.Errorf("Quote(%q): %s, and %d bytes do between the quotes", one, q, least[one])
		}
	}
}

// R5: what Lex answers is new each time, and so is the end.
func TestMemory(t *testing.T) {
	const s = "a: 1;"
	l, _, _ := token.Lex(s)
	for i := range l {
		l[i] = token.Token{Kind: 9}
	}
	lex(t, s, []token.Token{word("a", 0), sign(":", 1), number(1, 3), sign(";", 4)}, 0, api.OK)
}

// R1: great texts end.
func TestEnds(t *testing.T) {
	const n = 1 << 20
	next(t, strings.Repeat(" ", n), 0, end(n), n, api.OK)
	next(t, strings.Repeat("#", n), n/2, end(n), n, api.OK)
	wrong(t, strings.Repeat("a", n), 0, api.ErrToken)
	wrong(t, strings.Repeat("1", n), 0, api.ErrOver)
	wrong(t, strings.Repeat("0", n), 0, api.ErrToken)
	wrong(t, "\""+strings.Repeat(`\`, n), 0, api.ErrToken)
	wrong(t, "\""+strings.Repeat(`\`, n)+"\"", 0, api.ErrLong)
	wrong(t, strings.Repeat("\xff", n), 0, api.ErrToken)
	lex(t, strings.Repeat("a", n), nil, 0, api.ErrLong)
	if q := token.Quote(strings.Repeat("\x00", n)); len(q) != 4*n+2 {
		t.Errorf("quoted, it has %d bytes", len(q))
	}
}
