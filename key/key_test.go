package key_test

import (
	"math"
	"slices"
	"strconv"
	"strings"
	"testing"

	"treillage/api"
	"treillage/expr"
	"treillage/key"
	"treillage/show"
)

// OK, ErrArg and ErrForm by their numbers.
const (
	fine   = 0
	refuse = 1
	shape  = 2
)

// none fails, if something is answered beside the error of a text that is no key.
func none(t *testing.T, what, s string) {
	t.Helper()
	if n, fuel, e := key.Read(s); n.Name != "" || n.Res || len(n.Defs) != 0 || fuel != 0 || e != shape {
		t.Errorf("%s: Read(%s): %s %d %d", what, begin(s), brief(n), fuel, e)
	}
}

// reads fails, if a text is not read as a node and a fuel.
func reads(t *testing.T, s string, n api.Node, fuel int) {
	t.Helper()
	n.Res = false
	if got, f, e := key.Read(s); !same(got, n) || f != fuel || e != fine {
		t.Errorf("Read(%s): %s %d %d, not %s %d", begin(s), brief(got), f, e, brief(n), fuel)
	}
}

// exactly holds what is read against the chapter's words, and tells whether something was.
func exactly(t *testing.T, s string) bool {
	t.Helper()
	n, fuel, ok := readModel(s)
	if ok {
		reads(t, s, n, fuel)
	} else {
		none(t, "by the words", s)
	}
	return ok
}

// 22.1: keys, written out; whether a node is a resource is not in them.
func TestByHand(t *testing.T) {
	for s, c := range written() {
		for _, c.n.Res = range []bool{true, false} {
			if got, e := key.Of(c.n, c.fuel); got != s || e != fine {
				t.Errorf("Of(%s, %d): %s %d, not %s", brief(c.n), c.fuel, begin(got), e, begin(s))
			}
		}
		reads(t, s, c.n, c.fuel)
	}
}

// notKey fails, if a node and some fuel have a key.
func notKey(t *testing.T, n api.Node, fuel int) {
	t.Helper()
	for _, n.Res = range []bool{true, false} {
		if s, e := key.Of(n, fuel); s != "" || e != refuse {
			t.Errorf("Of(%s, %d): %s %d", brief(n), fuel, begin(s), e)
		}
	}
}

// 22.1: nodes without a name, without definitions, or with one that may not be, have no key.
func TestNodesRefused(t *testing.T) {
	for _, s := range []string{"", "A", "1", "_a", "a.b", "a b", " a", "a\n", "\na", "a\r", "a\n9\n1", "any", "bool", "computed", "false", "int", "none", "resource", "string", "true", "a2345678901234567", strings.Repeat("a", 1<<16), "\x00", "\xff", "é"} {
		notKey(t, node(s, number(1)), 9)
	}
	notKey(t, node("a"), 9)
	notKey(t, api.Node{Name: "a", Defs: []api.Expr{}}, 9)
	notKey(t, api.Node{}, 9)
	notKey(t, api.Node{}, 0)
	for _, e := range refused() {
		notKey(t, node("a", e), 9)
		notKey(t, node("a", e, number(1), number(2)), 9)
		notKey(t, node("a", number(1), e, number(2)), 9)
		notKey(t, node("a", number(1), number(2), e), 9)
		notKey(t, node("", e), 0)
	}
	if s, e := key.Of(node("a", nested(16)), 9); s != model(node("a", nested(16)), 9) || e != fine {
		t.Errorf("as deep as may be: %s %d", begin(s), e)
	}
}

// 22.1: each fuel from 1 to 2^20, and no other one, has a key.
func TestFuel(t *testing.T) {
	n := node("a", number(7))
	for _, fuel := range []int{0, -1, -9, 1<<20 + 1, 1 << 21, 1<<32 + 9, 1 << 53, -1 << 20, math.MaxInt, math.MinInt} {
		notKey(t, n, fuel)
		none(t, "a fuel that is none", "a\n"+strconv.Itoa(fuel)+"\n7\n")
	}
	for fuel := 1; fuel <= 1<<20; fuel += 1 + fuel/50 {
		for _, fuel := range []int{fuel, 1<<20 + 1 - fuel} {
			s := "a\n" + strconv.Itoa(fuel) + "\n7\n"
			if got, e := key.Of(n, fuel); got != s || e != fine {
				t.Errorf("Of(a, %d): %s %d", fuel, begin(got), e)
			}
			reads(t, s, n, fuel)
		}
	}
}

// 22.1: texts that are no key.
func TestNotRead(t *testing.T) {
	for _, s := range []string{
		"", "\n", "\n\n", "\n\n\n", "\n\n\n\n", "a", "a\n", "a\n9", "a\n9\n", "a\n9\n\n", "a\n9\n1", "a\n9\n1\nint", "a\n9\n1\n\n", "a\n9\n\n1\n", "a\n\n9\n1\n", "\na\n9\n1\n", "a\n\n1\n", "\n9\n1\n", "9\n1\n", "a\n1\n", "1\na\n9\n", "9\na\n1\n", // lines that lack, or are one too many
		"a\r\n9\n1\n", "a\n9\r\n1\n", "a\n9\n1\r\n", "a\r\n9\r\n1\r\n", "a\r9\r1\r", "a\n9\n1\n\r", "a\n9\n1\r", "a\x00\n9\n1\n", "a\n9\x00\n1\n", "a\n9\n1\x00\n", "\ufeffa\n9\n1\n",
		"a \n9\n1\n", " a\n9\n1\n", "a\n 9\n1\n", "a\n9 \n1\n", "a\n9\n 1\n", "a\n9\n1 \n", "a\n9\n1\n ", "a\n9\n \n", "a\n9\n\t1\n", "a\n9\n1 # x\n", "a\n9\n# x\n", "a # x\n9\n1\n", // blanks and remarks
		"a\n09\n1\n", "a\n009\n1\n", "a\n00\n1\n", "a\n0\n1\n", "a\n-0\n1\n", "a\n-9\n1\n", "a\n+9\n1\n", "a\n--9\n1\n", "a\n9.0\n1\n", "a\n9e0\n1\n", "a\n0x9\n1\n", "a\n9_0\n1\n", "a\n\n1\n", "a\n-\n1\n", "a\nb\n1\n", "a\n٩\n1\n",
		"a\n1048577\n1\n", "a\n9007199254740992\n1\n", "a\n9007199254740993\n1\n", "a\n9223372036854775807\n1\n", "a\n9223372036854775808\n1\n", "a\n18446744073709551617\n1\n", "a\n18446744073709551625\n1\n", "a\n-18446744073709551607\n1\n", "a\n" + strings.Repeat("9", 1000) + "\n1\n", // numbers past every bound
		"A\n9\n1\n", "1\n9\n1\n", "_\n9\n1\n", "a.b\n9\n1\n", "int\n9\n1\n", "any\n9\n1\n", "resource\n9\n1\n", "resource a\n9\n1\n", "a:\n9\n1\n", "a2345678901234567\n9\n1\n", "a\xff\n9\n1\n", "é\n9\n1\n", // names that are none
		"a\n9\n1;\n", "a\n9\na: 1;\n", "a\n9\nx\ny: 1\n", "a\n9\n;\n", "a\n9\nresource\n", "a\n9\n1 |\n", "a\n9\n1 2\n", "a\n9\n)\n", "a\n9\n{\n", "a\n9\n{x: 1\n}\n", "a\n9\n9007199254740993\n", "a\n9\n\"x\n", "a\n9\n\"x\ny\"\n", "a\n9\nA\n", "a\n9\n1\nint\n)\n", "a\n9\n)\nint\n1\n", // definitions that are none
		"a\n9\n(1)\n", "a\n9\n1|2\n", "a\n9\n1  | 2\n", "a\n9\n1 |2\n", "a\n9\n- 1\n", "a\n9\n-0\n", "a\n9\n01\n", "a\n9\n(1 & 2) | 3\n", "a\n9\n1 | (2 & 3)\n", "a\n9\n(1 + 2) + 3\n", "a\n9\n1 + (2 * 3)\n", "a\n9\n{ }\n", "a\n9\n{x:1;}\n", "a\n9\n{x: 1; }\n", "a\n9\n{y: 1; x: 2;}\n", "a\n9\n{x: 1;...}\n", "a\n9\n{ ...}\n", "a\n9\na . b\n", "a\n9\na. b\n", "a\n9\n>= 5\n", "a\n9\n<=- 5\n", "a\n9\n\"\\x41\"\n", "a\n9\n\"\\x0a\"\n", "a\n9\n\"\\x22\"\n", "a\n9\n1\n(int)\n", "a\n9\n1|2\nint\n", // such as are not in the form that is written
	} {
		none(t, "by hand", s)
		if _, _, ok := readModel(s); ok {
			t.Errorf("%s is a key by the words", begin(s))
		}
	}
}

// padded is what is made of a text that is so long that the whole has n bytes.
func padded(n int, made func(s string) api.Expr) api.Expr {
	empty, _ := show.Expr(made(""))
	return made(strings.Repeat("x", n-len(empty)))
}

// long are definitions whose texts have n bytes, some 4,096.
func long(n int) []api.Expr {
	words, path := text(strings.Repeat("x", 230)), ref(slices.Repeat([]string{"abcdefg"}, 16)...)
	return []api.Expr{
		padded(n, func(s string) api.Expr { return kids(12, append(many(17, words), text(s))...) }),
		padded(n, func(s string) api.Expr { return kids(11, append(many(31, path), text(s))...) }),
		padded(n, func(s string) api.Expr {
			l := []api.Pair{pair("a", text(s))}
			for i := range 17 {
				l = append(l, pair("n"+strconv.Itoa(10+i), words))
			}
			return record(l...)
		}),
	}
}

// 22.1: a definition's text of up to 4,096 bytes is read, one of more is written, and not read; the key may be longer.
func TestLongTexts(t *testing.T) {
	for n := 4090; n <= 4100; n++ {
		for _, d := range long(n) {
			for _, x := range []api.Node{node("a", d), node("a", d, number(1)), node("a", number(1), d), node("a", number(1), d, ref("a")), node("a", d, d, d)} {
				s, e := key.Of(x, 9)
				if s != model(x, 9) || e != fine || slices.IndexFunc(strings.Split(s, "\n"), func(l string) bool { return len(l) == n }) < 2 {
					t.Fatalf("a definition of %d bytes: %s %d", n, begin(s), e)
				}
				if n <= 4096 {
					reads(t, s, x, 9)
				} else {
					none(t, "a definition that is too long", s)
				}
			}
		}
	}
	deep := node("a", slices.Concat(long(4096), long(4096), many(500, kids(12, number(1), ref("net", "n"))))...)
	reads(t, model(deep, 1<<20), deep, 1<<20)
}

// 22.1: definitions that are as deep as may be, in whatever brackets, are read.
func TestDeepest(t *testing.T) {
	for first := 10; first <= 15; first++ {
		for second := 10; second <= 15; second++ {
			for at := range 2 {
				e := record()
				for n := range 15 {
					o := []int{first, second}[n%2]
					if l := many(2, number(1)); o == 10 {
						e = open(pair("a", e))
					} else {
						l[at] = e
						e = kids(o, l...)
					}
				}
				n := node("a", number(1), e)
				s, fault := key.Of(n, 9)
				if s != model(n, 9) || fault != fine {
					t.Errorf("Of(%s): %s %d", brief(n), begin(s), fault)
				}
				reads(t, s, n, 9)
				none(t, "one bracket more", "a\n9\n"+strings.Repeat("(", 17)+"1"+strings.Repeat(")", 17)+"\n")
			}
		}
	}
}

// 22.1, 22.2: rolled nodes are written by the chapter's words, and read as they were, but for Res; unlike ones have unlike keys.
func TestRolled(t *testing.T) {
	type asked struct {
		n    api.Node
		fuel int
	}
	seen := map[string]asked{}
	for i := range 20000 {
		n, fuel := rolledNode(new(dice(i)))
		n.Res = i%2 == 0
		s, e := key.Of(n, fuel)
		if s != model(n, fuel) || e != fine {
			t.Fatalf("Of(%s, %d): %s %d, not %s", brief(n), fuel, begin(s), e, begin(model(n, fuel)))
		}
		if slices.ContainsFunc(strings.Split(s, "\n"), func(l string) bool { return len(l) > 4096 }) {
			none(t, "a definition that is too long", s)
		} else {
			reads(t, s, n, fuel)
		}
		if x, ok := seen[s]; ok && (x.n.Name != n.Name || x.fuel != fuel || !slices.EqualFunc(x.n.Defs, n.Defs, expr.Same)) {
			t.Errorf("%s, %d and %s, %d have the same key", brief(n), fuel, brief(x.n), x.fuel)
		}
		seen[s] = asked{n, fuel}
	}
	if len(seen) < 15000 {
		t.Errorf("only %d keys are unlike", len(seen))
	}
}

// 22.2: all nodes of few names, fuels and definitions, each held against each.
func TestUnlike(t *testing.T) {
	some := []api.Expr{number(1), number(11), with(4, 2), ref("a"), ref("a1"), text("1"), text("1\n1"), text("1\\n1"), kids(12, number(1), number(11)), kids(11, number(1), number(11)), record(), open()}
	lists := [][]api.Expr{}
	for _, x := range some {
		lists = append(lists, []api.Expr{x})
		for _, y := range some {
			lists = append(lists, []api.Expr{x, y}, []api.Expr{x, y, number(1)})
		}
	}
	keys, nodes := map[string]bool{}, 0
	for _, name := range []string{"a", "a1", "b"} {
		for _, fuel := range []int{1, 11, 111} {
			for _, l := range lists {
				s, e := key.Of(node(name, l...), fuel)
				if e != fine || keys[s] {
					t.Errorf("%s of %s, %d is another one's key, or %d", begin(s), brief(l), fuel, e)
				}
				keys[s] = true
				nodes++
			}
		}
	}
	if len(keys) != nodes {
		t.Errorf("%d nodes have %d keys", nodes, len(keys))
	}
}

// 22.1: a front of a key, and a key with a byte behind it, are read just if the words have them for keys, of the definitions that are whole.
func TestCutAndLonger(t *testing.T) {
	cut := 0
	check := func(s string) {
		for n := range s {
			if exactly(t, s[:n]) {
				cut++
			}
		}
		for b := range 256 {
			if exactly(t, s+string([]byte{byte(b)})) {
				t.Errorf("%s is read with the byte %d behind it", begin(s), b)
			}
		}
		none(t, "without its last line feed", s[:len(s)-1])
		exactly(t, s+"1\n")
		exactly(t, s+s)
	}
	for s := range written() {
		check(s)
	}
	for i := range 100 {
		n, fuel := rolledNode(new(dice(i)))
		check(model(n, fuel))
	}
	if cut < 100 {
		t.Errorf("only %d fronts are keys", cut)
	}
}

// 22.1: keys of which one byte is turned into another one, taken out, or comes twice, are read just if the words have them for keys.
func TestTurned(t *testing.T) {
	read := 0
	count := func(s string) {
		if exactly(t, s) {
			read++
		}
	}
	keys := []string{}
	for s := range written() {
		keys = append(keys, s)
	}
	for i := range 60 {
		if n, fuel := rolledNode(new(dice(i))); len(model(n, fuel)) < 120 {
			keys = append(keys, model(n, fuel))
		}
	}
	for _, s := range keys {
		for i := range len(s) {
			for b := range 256 {
				count(s[:i] + string([]byte{byte(b)}) + s[i+1:])
			}
			count(s[:i] + s[i+1:])
			count(s[:i] + s[i:i+1] + s[i:])
		}
	}
	if read < 5000 {
		t.Errorf("only %d were read", read)
	}
}

// 22.1: all texts of some signs, up to seven.
func TestAllShort(t *testing.T) {
	read := 0
	var longer func(s string, n int)
	longer = func(s string, n int) {
		if exactly(t, s) {
			read++
		}
		if n > 0 {
			for _, c := range "\na19 -0" {
				longer(s+string(c), n-1)
			}
		}
	}
	longer("", 6)
	longer("a\n1\n", 5)
	if read < 200 {
		t.Errorf("only %d were read", read)
	}
}

// R1: what is very great ends, and is a key just if the words have it for one.
func TestEnds(t *testing.T) {
	for _, s := range []string{
		strings.Repeat("a", 1<<22), strings.Repeat("\n", 1<<22), strings.Repeat("a\n", 1<<21), strings.Repeat("9\n", 1<<21), strings.Repeat("a", 1<<22) + "\n9\n1\n", "a\n" + strings.Repeat("9", 1<<22) + "\n1\n", "a\n9\n" + strings.Repeat("1", 1<<22) + "\n", "a\n9\n" + strings.Repeat(" ", 1<<22) + "1\n", "a\n9\n" + strings.Repeat("(", 1<<22) + "\n", "a\n9\n" + strings.Repeat("1 | ", 1<<20) + "1\n", "a\n9\n" + strings.Repeat("{a: ", 1000) + "\n", "int\n9\n" + strings.Repeat("1\n", 1<<15),
	} {
		none(t, "great", s)
	}
	n := node("a", many(1<<15, number(1))...)
	s, e := key.Of(n, 9)
	if s != "a\n9\n"+strings.Repeat("1\n", 1<<15) || e != fine {
		t.Errorf("a node of very many definitions: %s %d", begin(s), e)
	}
	reads(t, s, n, 9)
	none(t, "and one that is none behind them", s+")\n")
}

// R5: what is handed in is not changed, what lies behind a list's length is not looked at, and what is read shares no list with what was read before.
func TestMemory(t *testing.T) {
	behind := []api.Expr{number(1), record(pair("a", ref("b", "c"))), op(99)}
	n := api.Node{Name: "a", Res: true, Defs: behind[:2]}
	s, e := key.Of(n, 9)
	if s != "a\n9\n1\n{a: b.c;}\n" || e != fine || !n.Res || n.Name != "a" {
		t.Errorf("Of: %s %d, and %s", begin(s), e, brief(n))
	}
	if !expr.Same(behind[0], number(1)) || !expr.Same(behind[1], record(pair("a", ref("b", "c")))) || behind[2].Op != 99 {
		t.Errorf("what was handed in is %v now", behind)
	}
	a, _, _ := key.Read(s)
	b, _, _ := key.Read(s)
	a.Defs[1].Pairs[0].E.Path[0] = "x"
	a.Defs[1].Pairs[0].Name = "y"
	a.Defs[0].N = 5
	n.Res = false
	if !same(b, n) {
		t.Errorf("Read: %s and %s share", brief(a), brief(b))
	}
}
