package token_test

import (
	"fmt"
	"math"
	"slices"
	"strconv"
	"strings"
	"testing"

	"treillage/api"
	"treillage/token"
)

const (
	top   = "9007199254740992" // api.MaxInt
	above = "9007199254740993"
)

// end, number, word, text and sign are tokens at a place.
func end(at int) token.Token            { return token.Token{At: at} }
func number(n, at int) token.Token      { return token.Token{Kind: 1, N: n, At: at} }
func word(s string, at int) token.Token { return token.Token{Kind: 2, Text: s, At: at} }
func text(s string, at int) token.Token { return token.Token{Kind: 3, Text: s, At: at} }
func sign(s string, at int) token.Token { return token.Token{Kind: 4, Text: s, At: at} }

// signs are all signs.
func signs() []string {
	return []string{":", ";", "{", "}", "(", ")", "&", "|", "+", "-", "*", ">=", "<=", "...", "."}
}

// words are all words of the language.
func words() []string {
	return []string{"any", "bool", "computed", "false", "int", "none", "resource", "string", "true"}
}

// cut is the begin of a text, which may be long.
func cut(s string) string { return strconv.Quote(s[:min(len(s), 80)]) }

// next fails, if what Next tells is not this.
func next(t *testing.T, s string, at int, want token.Token, behind int, wantE api.Errno) {
	t.Helper()
	got, n, e := token.Next(s, at)
	if got != want || n != behind || e != wantE {
		t.Errorf("Next(%s, %d): %v %d %d, not %v %d %d", cut(s), at, got, n, e, want, behind, wantE)
	}
}

// wrong fails, if what Next tells at the front is not an error at a place.
func wrong(t *testing.T, s string, at int, e api.Errno) {
	t.Helper()
	next(t, s, 0, token.Token{}, at, e)
}

// 12.1: the kinds are numbers from 0 on.
func TestKinds(t *testing.T) {
	if token.End != 0 || token.Int != 1 || token.Name != 2 || token.Text != 3 || token.Sign != 4 {
		t.Errorf("kinds: %d %d %d %d %d", token.End, token.Int, token.Name, token.Text, token.Sign)
	}
}

// 12.1: each kind of token, at the front, and what stands behind it.
func TestNextByHand(t *testing.T) {
	for _, c := range []struct {
		s      string
		want   token.Token
		behind int
	}{
		{"", end(0), 0},
		{"0", number(0, 0), 1}, {"7", number(7, 0), 1}, {"10", number(10, 0), 2}, {"1234567890", number(1234567890, 0), 10}, {top, number(1<<53, 0), 16}, {"9007199254740991", number(1<<53-1, 0), 16}, {"1000000000000000", number(1e15, 0), 16},
		{"12 3", number(12, 0), 2}, {"12a", number(12, 0), 2}, {"0a", number(0, 0), 1}, {"0_", number(0, 0), 1}, {"1.5", number(1, 0), 1}, {"5;", number(5, 0), 1}, {"3#4", number(3, 0), 1}, {"1\xff", number(1, 0), 1}, {"0\"", number(0, 0), 1}, {"4\x00", number(4, 0), 1}, {"2A", number(2, 0), 1},
		{"a", word("a", 0), 1}, {"z", word("z", 0), 1}, {"net_2", word("net_2", 0), 5}, {"a__0", word("a__0", 0), 4}, {"ab cd", word("ab", 0), 2}, {"ab.cd", word("ab", 0), 2}, {"a-b", word("a", 0), 1}, {"aB", word("a", 0), 1}, {"a\xc3\xa9", word("a", 0), 1}, {"a\"b\"", word("a", 0), 1}, {"a#b", word("a", 0), 1}, {"a\x00", word("a", 0), 1},
		{"abcdefghijklmnop", word("abcdefghijklmnop", 0), 16}, {"qrstuvwxyz_01234", word("qrstuvwxyz_01234", 0), 16}, {"a56789", word("a56789", 0), 6}, {"anyone", word("anyone", 0), 6}, {"int8", word("int8", 0), 4}, {"x:", word("x", 0), 1},
		{`""`, text("", 0), 2}, {`"a"`, text("a", 0), 3}, {`"a b" "c"`, text("a b", 0), 5}, {`"a""b"`, text("a", 0), 3}, {`"A~ !#'"`, text("A~ !#'", 0), 8}, {`"# no remark"`, text("# no remark", 0), 13}, {`"\""`, text(`"`, 0), 4}, {`"\\"`, text(`\`, 0), 4}, {`"\\" "`, text(`\`, 0), 4}, {`"\n"`, text("\n", 0), 4}, {`"\x00\xff\x7f"`, text("\x00\xff\x7f", 0), 14}, {`"\x41\x5c\x22\x0a"`, text("A\\\"\n", 0), 18}, {`"\\n\\x41"`, text(`\n\x41`, 0), 10}, {`"a"b`, text("a", 0), 3}, {"\"a\"\xff", text("a", 0), 3}, {`"true"`, text("true", 0), 6}, {`"007"`, text("007", 0), 5},
		{"-5", sign("-", 0), 1}, {"--", sign("-", 0), 1}, {">=3", sign(">=", 0), 2}, {"<=3", sign("<=", 0), 2}, {">=>=", sign(">=", 0), 2}, {"<==", sign("<=", 0), 2}, {".", sign(".", 0), 1}, {"..", sign(".", 0), 1}, {"...", sign("...", 0), 3}, {"....", sign("...", 0), 3}, {".....", sign("...", 0), 3}, {". ..", sign(".", 0), 1}, {".5", sign(".", 0), 1}, {"&&", sign("&", 0), 1}, {"||", sign("|", 0), 1}, {":=", sign(":", 0), 1},
	} {
		next(t, c.s, 0, c.want, c.behind, api.OK)
	}
}

// 12.1: each sign alone, with each other one behind it, and each word of the language, which is a Name.
func TestSignsAndWords(t *testing.T) {
	for _, s := range signs() {
		next(t, s, 0, sign(s, 0), len(s), api.OK)
		for _, behind := range append(signs(), " ", "a", "1", `"`, "\xff", "=", "#") {
			want := s
			if s == "." && behind == "..." {
				want = "..."
			}
			next(t, s+behind, 0, sign(want, 0), len(want), api.OK)
		}
	}
	for _, s := range words() {
		next(t, s, 0, word(s, 0), len(s), api.OK)
		next(t, s+"_", 0, word(s+"_", 0), len(s)+1, api.OK)
		next(t, " "+s+";", 0, word(s, 1), len(s)+1, api.OK)
	}
}

// 12.1: blanks and remarks are passed over; at the end there is a token, too, and its place is the end.
func TestBetween(t *testing.T) {
	for _, s := range []string{"", " ", "\t", "\n", "\r", " \t\n\r ", "#", "# x", "#\n", "# x\n", "# x\r\n", "##", "# a # b\n\n  # c", "#\xff\x00\"\n", "# \"", " # x\n # y\n\t", "# x\r", strings.Repeat(" ", 5000), strings.Repeat("#\n", 5000), "#" + strings.Repeat("x", 5000)} {
		next(t, s, 0, end(len(s)), len(s), api.OK)
		next(t, s, len(s), end(len(s)), len(s), api.OK)
		if strings.Contains(s, "#") {
			s += "\n"
		}
		n := len(s)
		next(t, s+"ab", 0, word("ab", n), n+2, api.OK)
		next(t, s+"12 ", 0, number(12, n), n+2, api.OK)
		next(t, s+`"#"#`, 0, text("#", n), n+3, api.OK)
		next(t, s+"...", 0, sign("...", n), n+3, api.OK)
		wrong(t, s+"\xff", n, api.ErrToken)
		wrong(t, s+above, n, api.ErrOver)
		wrong(t, s+"\""+strings.Repeat("x", 257)+"\"", n, api.ErrLong)
	}
	// No remark is ended by another byte than 10, and no other byte is a blank.
	next(t, "# a\rb\vc", 0, end(7), 7, api.OK)
	for b := range 256 {
		s := string([]byte{byte(b), 'q'})
		if strings.ContainsAny(s[:1], " \t\n\r") {
			next(t, s, 0, word("q", 1), 2, api.OK)
		} else if got, _, _ := token.Next(s, 0); got == word("q", 1) {
			t.Errorf("byte %d is passed over", b)
		}
		if b != 10 {
			next(t, "#"+s, 0, end(3), 3, api.OK)
		}
	}
}

// 12.1: each place of a text, what stands ahead of it being nothing to it; and places outside.
func TestPlaces(t *testing.T) {
	s := "ab 120#x\n\"a\\\"b\" ...."
	for at, c := range []struct {
		want   token.Token
		behind int
	}{
		{word("ab", 0), 2}, {word("b", 1), 2}, {number(120, 3), 6}, {number(120, 3), 6}, {number(20, 4), 6}, {number(0, 5), 6},
		{text(`a"b`, 9), 15}, {word("x", 7), 8}, {text(`a"b`, 9), 15}, {text(`a"b`, 9), 15}, {word("a", 10), 11}, {token.Token{}, 11}, {text("b", 12), 15}, {word("b", 13), 14}, {token.Token{}, 14},
		{sign("...", 16), 19}, {sign("...", 16), 19}, {sign("...", 17), 20}, {sign(".", 18), 19}, {sign(".", 19), 20}, {end(20), 20},
	} {
		e := api.OK
		if c.want == (token.Token{}) {
			e = api.ErrToken
		}
		next(t, s, at, c.want, c.behind, e)
	}
	for _, s := range []string{"", "a", s, "\xff"} {
		for _, at := range []int{-1, -2, len(s) + 1, len(s) + 2, math.MinInt, math.MaxInt} {
			next(t, s, at, token.Token{}, 0, api.ErrArg)
		}
	}
}

// 12.1: digits that are no number of the language.
func TestWrongNumbers(t *testing.T) {
	for _, s := range []string{"00", "01", "007", "0" + top, "0" + above, "00000000000000000000000", "012a", "01 2", "00."} {
		wrong(t, s, 0, api.ErrToken)
		wrong(t, " \n"+s, 2, api.ErrToken)
	}
	for _, s := range []string{above, "9999999999999999", "10000000000000000", "18446744073709551616", "9223372036854775808", "90071992547409920", top + "0", strings.Repeat("1", 100), strings.Repeat("9", 100000), "1" + strings.Repeat("0", 100000), above + "a", above + " 1"} {
		wrong(t, s, 0, api.ErrOver)
		wrong(t, "# x\n"+s, 4, api.ErrOver)
	}
}

// 12.1: names that are too long, and what no name begins with.
func TestWrongNames(t *testing.T) {
	for _, s := range []string{strings.Repeat("a", 17), "a" + strings.Repeat("0", 16), "a" + strings.Repeat("_", 16), "resource_resource", "aaaaaaaaaaaaaaaaa b", strings.Repeat("z", 100000), "_", "_a", "A", "Any", "A1", "_1"} {
		wrong(t, s, 0, api.ErrToken)
		wrong(t, "\r"+s, 1, api.ErrToken)
	}
}

// 12.1: each byte as the first one, alone: most are none.
func TestEachByte(t *testing.T) {
	for b := range 256 {
		s := string([]byte{byte(b)})
		switch {
		case strings.Contains(" \t\n\r#", s):
			next(t, s, 0, end(1), 1, api.OK)
		case strings.Contains("0123456789", s):
			next(t, s, 0, number(b-'0', 0), 1, api.OK)
		case strings.Contains("abcdefghijklmnopqrstuvwxyz", s):
			next(t, s, 0, word(s, 0), 1, api.OK)
		case strings.Contains(":;{}()&|+-*.", s):
			next(t, s, 0, sign(s, 0), 1, api.OK)
		default:
			wrong(t, s, 0, api.ErrToken)
			wrong(t, "  "+s+" =", 2, api.ErrToken)
			if s != `"` {
				wrong(t, s+s, 0, api.ErrToken)
			}
		}
	}
}

// 12.1: one byte between quotes, alone and behind a part: each that is plain, and no other one.
func TestEachPart(t *testing.T) {
	for b := range 256 {
		one := string([]byte{byte(b)})
		if 32 <= b && b <= 126 && one != `"` && one != `\` {
			next(t, `"`+one+`"`, 0, text(one, 0), 3, api.OK)
			next(t, `"\n`+one+`!"`, 0, text("\n"+one+"!", 0), 6, api.OK)
		} else if one != `"` {
			wrong(t, `"`+one+`"`, 0, api.ErrToken)
			wrong(t, `"ab`+one, 0, api.ErrToken)
			wrong(t, ` "`+one+` " "x"`, 1, api.ErrToken)
		}
		meant := map[string]string{`"`: `"`, `\`: `\`, "n": "\n"}
		if s, ok := meant[one]; ok {
			next(t, `"a\`+one+`b"`, 0, text("a"+s+"b", 0), 6, api.OK)
		} else {
			wrong(t, `"a\`+one+`b"`, 0, api.ErrToken)
		}
	}
}

// 12.1: all two bytes behind \x: just two digits, the small ones, tell a byte.
func TestEachCodedByte(t *testing.T) {
	const digits = "0123456789abcdef"
	read := 0
	for a := range 256 {
		for b := range 256 {
			high, low := strings.IndexByte(digits, byte(a)), strings.IndexByte(digits, byte(b))
			s := `"\x` + string([]byte{byte(a), byte(b)}) + `"`
			if high < 0 || low < 0 {
				wrong(t, s, 0, api.ErrToken)
				continue
			}
			read++
			next(t, s, 0, text(string([]byte{byte(16*high + low)}), 0), 6, api.OK)
		}
	}
	if read != 256 {
		t.Errorf("%d were read", read)
	}
}

// 12.1: texts that do not end so.
func TestWrongTexts(t *testing.T) {
	for _, s := range []string{`"`, `"a`, `"a b c`, `"\`, `"a\`, `"\"`, `"a\"`, `"\\\"`, `"\x`, `"\x"`, `"\x4`, `"\x4"`, `"\x41`, `"\x4g"`, `"\xg4"`, `"\x4A"`, `"\xFF"`, `"\X41"`, `"\N"`, `"\t"`, `"\r"`, `"\0"`, `"\ "`, `"\'"`, "\"\\\n\"", "\"a\nb\"", "\"\t\"", "\"\x00\"", "\"\x7f\"", "\"\xc3\xa9\"", "\"\xff\"", `"a" "`[3:], `'a'`, "\"" + strings.Repeat("x", 100000)} {
		at := strings.IndexAny(s, "\"'")
		wrong(t, s, at, api.ErrToken)
		wrong(t, "\t"+s, at+1, api.ErrToken)
	}
	// A text that ended ahead of the place is nothing to it.
	next(t, `"a" "`, 3, token.Token{}, 4, api.ErrToken)
	// Each front of a text is none.
	s := `"a\x41\n\\\"b"`
	for n := 1; n < len(s); n++ {
		wrong(t, s[:n], 0, api.ErrToken)
	}
	next(t, s, 0, text("aA\n\\\"b", 0), len(s), api.OK)
}

// 12.1: a text's length is that of its bytes, not of what they are written with; that it is no token is told ahead of that it is too long.
func TestLongTexts(t *testing.T) {
	for written, one := range map[string]string{"x": "x", `\"`: `"`, `\\`: `\`, `\n`: "\n", `\x00`: "\x00", `\xc3`: "\xc3", " ": " "} {
		s := `"` + strings.Repeat(written, 256) + `"`
		next(t, s, 0, text(strings.Repeat(one, 256), 0), len(s), api.OK)
		for _, n := range []int{257, 258, 512, 1024, 5000} {
			s := `"` + strings.Repeat(written, n)
			wrong(t, s+`"`, 0, api.ErrLong)
			wrong(t, "  "+s+`" "a"`, 2, api.ErrLong)
			wrong(t, s, 0, api.ErrToken)
			wrong(t, s+`\`, 0, api.ErrToken)
			wrong(t, s+"\n\"", 0, api.ErrToken)
			wrong(t, s+`\xA0"`, 0, api.ErrToken)
		}
	}
}

// lex fails, if what Lex tells is not this.
func lex(t *testing.T, s string, want []token.Token, at int, wantE api.Errno) {
	t.Helper()
	l, n, e := token.Lex(s)
	if !slices.Equal(l, want) || n != at || e != wantE {
		t.Errorf("Lex(%s): %s %d %d, not %s %d %d", cut(s), cut(fmt.Sprint(l)), n, e, cut(fmt.Sprint(want)), at, wantE)
	}
}

// 12.2: Lex, by hand.
func TestLexByHand(t *testing.T) {
	type tokens = []token.Token
	for _, s := range []string{"", " ", "\n\n", "# x", "# x\n\t", "\r#"} {
		lex(t, s, nil, 0, api.OK)
	}
	lex(t, "a: >=3; # x", tokens{word("a", 0), sign(":", 1), sign(">=", 3), number(3, 5), sign(";", 6)}, 0, api.OK)
	lex(t, "resource web: {n: net.n;};\n", tokens{word("resource", 0), word("web", 9), sign(":", 12), sign("{", 14), word("n", 15), sign(":", 16), word("net", 18), sign(".", 21), word("n", 22), sign(";", 23), sign("}", 24), sign(";", 25)}, 0, api.OK)
	lex(t, "#x\n\n12a\"b\"c-<=.....", tokens{number(12, 4), word("a", 6), text("b", 7), word("c", 10), sign("-", 11), sign("<=", 12), sign("...", 14), sign(".", 17), sign(".", 18)}, 0, api.OK)
	lex(t, "0 10\t"+top, tokens{number(0, 0), number(10, 2), number(1<<53, 5)}, 0, api.OK)
	lex(t, strings.Join(signs(), " "), tokens{sign(":", 0), sign(";", 2), sign("{", 4), sign("}", 6), sign("(", 8), sign(")", 10), sign("&", 12), sign("|", 14), sign("+", 16), sign("-", 18), sign("*", 20), sign(">=", 22), sign("<=", 25), sign("...", 28), sign(".", 32)}, 0, api.OK)
	for _, c := range []struct {
		s  string
		at int
		e  api.Errno
	}{
		{"\xff", 0, api.ErrToken}, {"a: =3;", 3, api.ErrToken}, {"a: 3;\n b: 03;", 10, api.ErrToken}, {"a > b", 2, api.ErrToken}, {"a: \"b;", 3, api.ErrToken}, {"1 2 " + above, 4, api.ErrOver}, {"x" + strings.Repeat("y", 16), 0, api.ErrToken}, {`a "` + strings.Repeat("x", 257) + `" b`, 2, api.ErrLong}, {"a.b.C", 4, api.ErrToken}, {"é", 0, api.ErrToken}, {"a\u00a0b", 1, api.ErrToken},
		// The first one of several.
		{"a ! \" " + above, 2, api.ErrToken}, {above + " !", 0, api.ErrOver}, {"! " + above, 0, api.ErrToken}, {`"` + strings.Repeat("x", 300) + `" !`, 0, api.ErrLong}, {"00 " + above, 0, api.ErrToken},
		// Nothing is told in a remark, all is behind it.
		{"# ! \" " + above + "\n!", 23, api.ErrToken},
	} {
		lex(t, c.s, nil, c.at, c.e)
	}
}

// 12.2: a text of 4,096 bytes is cut, a longer one is not, whatever stands in it.
func TestLexLong(t *testing.T) {
	for _, s := range []string{" ", "#", "\n", "7 ", "a ", ".", ":", `""`, "ab# ", "\"\\n\"\n", "\xff", "00", "9"} {
		full := strings.Repeat(s, 4096/len(s)+1)[:4096-4096%len(s)]
		full += strings.Repeat(" ", 4096-len(full))
		want, at, e := byHand(full)
		lex(t, full, want, at, e)
		for _, more := range []string{" ", "#", "a", "\xff", strings.Repeat("a ", 5000)} {
			lex(t, full+more, nil, 0, api.ErrLong)
		}
	}
	if l, _, _ := token.Lex(strings.Repeat(":", 4096)); len(l) != 4096 {
		t.Errorf("%d tokens", len(l))
	}
	lex(t, strings.Repeat(" ", 4095)+"\xff", nil, 4095, api.ErrToken)
	lex(t, strings.Repeat(" ", 4096)+"\xff", nil, 0, api.ErrLong)
}
