package eval_test

import (
	"math"
	"slices"
	"strconv"
	"strings"
	"testing"

	"treillage/api"
	"treillage/eval"
	"treillage/expr"
)

// come is a row of a table: a node's definitions, and all that Node tells of them, reading the tests' world.
type come struct{ defs, want string }

// check holds Node against the rows of a table.
func check(t *testing.T, l []come) {
	t.Helper()
	for _, c := range l {
		if got := saidOut(eval.Node(defs(t, c.defs), plenty, world())); got != c.want {
			t.Errorf("%s: %s, not %s", c.defs, got, c.want)
		}
	}
}

// 19.1: each operation without parts, at its bounds.
func TestSimple(t *testing.T) {
	most, least := strconv.Itoa(top), strconv.Itoa(-top)
	long := strings.Repeat("x", 256)
	check(t, []come{
		{"5", "5 in 1"}, {"0", "0 in 1"}, {"-3", "-3 in 1"}, {most, most + " in 1"}, {least, least + " in 1"},
		{`""`, `"" in 1`}, {`"ab"`, `"ab" in 1`}, {`"` + long + `"`, `"` + long + `" in 1`}, {`"\x00\xff"`, `"\x00\xff" in 1`},
		{"true", "true in 1"}, {"false", "false in 1"},
		{"bool", "bool in 1"}, {"int", "int in 1"}, {"string", "string in 1"}, {"any", "any in 1"}, {"none", "none in 1"},
		{"computed", "bool?|int?|string? in 1"},
		{">=3", "3.." + most + " in 1"}, {">=" + most, most + " in 1"}, {">=" + least, "int in 1"}, {">=-1", "-1.." + most + " in 1"}, {">=0", "0.." + most + " in 1"},
		{"<=3", least + "..3 in 1"}, {"<=" + most, "int in 1"}, {"<=" + least, least + " in 1"}, {"<=-1", least + "..-1 in 1"}, {"<=0", least + "..0 in 1"},
	})
}

// 19.1: what is made of computed by each operation.
func TestLater(t *testing.T) {
	check(t, []come{
		{"computed & int", "int? in 3"}, {"int & computed", "int? in 3"}, {"computed & bool", "bool? in 3"}, {"computed & string", "string? in 3"}, {"computed & any", "bool?|int?|string? in 3"},
		{"computed & 5", "5 in 3"}, {`computed & "a"`, `"a" in 3`}, {"computed & true", "true in 3"}, {"computed & none", "none in 3"}, {"computed & {}", "none in 3"}, {"computed & >=1 & <=9", "1..9? in 4"}, {"computed & >=1 & <=1", "1 in 4"},
		{"computed & computed", "bool?|int?|string? in 3"}, {`computed & (int | "a")`, `int?|"a" in 5`},
		{"computed | 5", "bool?|int?|string? in 3"}, {"computed | int", "bool?|int|string? in 3"}, {"computed | {}", "bool?|int?|string?|{} in 3"}, {"computed | any", "any in 3"}, {"computed | none", "bool?|int?|string? in 3"}, {"(computed & int) | 5", "int? in 5"}, {"(computed & >=0 & <=1) | 5", "0..1?|5 in 6"},
		{"{a: computed;}", "{a:bool?|int?|string?;} in 2"}, {"{a: computed & int; ...}", "{a:int?;...} in 4"}, {"{a: computed;} & {a: 4;}", "{a:4;} in 5"},
		{"computed + 1", "!28 in 3"}, {"1 + computed", "!28 in 3"}, {"computed - computed", "!28 in 3"}, {"computed * 2", "!28 in 3"},
		{"(computed & int) + 1", "int? in 5"}, {"1 + (computed & int)", "int? in 5"}, {"(computed & int) - (computed & int)", "int? in 7"}, {"(computed & >=1 & <=2) * 0", "int? in 6"},
		{`(computed & string) + "a"`, "string? in 5"}, {`"a" + (computed & string)`, "string? in 5"}, {"(computed & bool) + 1", "!27 in 5"}, {`(computed & string) - "a"`, "!27 in 5"}, {"(computed & string) * 2", "!27 in 5"}, {"(computed & int) + (computed & string)", "!27 in 7"},
	})
}

// 19.1: references of one name and of several, to a value, to an error, to none, to what Pick refuses.
func TestRefs(t *testing.T) {
	check(t, []come{
		{"four", "4 in 1 four=4"}, {"two", "1|2 in 1 two=1|2"}, {"all", "any in 1 all=any"}, {"some", "3..7? in 1 some=3..7?"}, {"void", "none in 1 void=none"},
		{"web", `{n:4;net:{id:"i";};} in 1 web={n:4;net:{id:"i";};}`}, {"web.n", `4 in 1 web={n:4;net:{id:"i";};}`}, {"web.net", `{id:"i";} in 1 web={n:4;net:{id:"i";};}`}, {"web.net.id", `"i" in 1 web={n:4;net:{id:"i";};}`}, {"more.s", "string? in 1 more={n:1..9;s:string?;...}"},
		{"deep.a.a.a.a.a.a.a.a.a.a.a.a.a.a.a", "7 in 1 deep=" + saidValue(nested(15, number(7, 7)))},
		{"bad", "!5 in 1 bad=!5"}, {"bad.n", "!5 in 1 bad=!5"}, {"odd", "!-77 in 1 odd=!-77"}, {"odd.n", "!-77 in 1 odd=!-77"}, {"lost", "!23 in 1 lost=!23"}, {"lost.n.m", "!23 in 1 lost=!23"}, {"wrong", "!1 in 1 wrong=!1"}, {"wrong.n", "!1 in 1 wrong=!1"},
		{"void.n", "!31 in 1 void=none"}, {"two.n", "!28 in 1 two=1|2"}, {"all.n", "!28 in 1 all=any"}, {"pair.n", "!28 in 1 pair={n:true;}|{n:false;...}"}, {"four.n", "!27 in 1 four=4"}, {"some.n", "!27 in 1 some=3..7?"}, {"nine.n.m", "!27 in 1 nine=1..9"},
		{"web.m", `!29 in 1 web={n:4;net:{id:"i";};}`}, {"more.m", "!29 in 1 more={n:1..9;s:string?;...}"}, {"web.n.m", `!27 in 1 web={n:4;net:{id:"i";};}`}, {"web.net.n.m", `!29 in 1 web={n:4;net:{id:"i";};}`},
	})
}

// 19.1: structs, with the dots and without, with no pairs, with such as come to none, to an error, to what is too deep or too heavy.
func TestStructs(t *testing.T) {
	heavy := saidValue(value(row(0, 300)...))
	check(t, []come{
		{"{}", "{} in 1"}, {"{...}", "{...} in 1"}, {"{a: 1;}", "{a:1;} in 2"}, {"{a: 1; ...}", "{a:1;...} in 2"}, {"{b: 1; a: true | 2;}", "{a:true|2;b:1;} in 5"}, {"{a: {b: {};}; c: {...};}", "{a:{b:{};};c:{...};} in 4"}, {"{a: any;}", "{a:any;} in 2"},
		{"{a: four; b: four; c: web.n;}", `{a:4;b:4;c:4;} in 4 four=4 web={n:4;net:{id:"i";};}`},
		{"{a: none;}", "none in 2"}, {"{a: 1; b: none; c: 2;}", "none in 4"}, {"{a: none; ...}", "none in 2"}, {"{a: {b: none;};}", "none in 3"}, {"{a: 1 & 2;}", "none in 4"}, {"{a: none; b: bad;}", "!5 in 3 bad=!5"}, {"{a: void; b: four;}", "none in 3 void=none four=4"},
		{"{a: bad; b: lost;}", "!5 in 2 bad=!5"}, {"{b: bad; a: lost;}", "!23 in 2 lost=!23"}, {"{a: 1; b: four.n; c: 2;}", "!27 in 3 four=4"}, {"{a: {b: bad;}; c: 1;}", "!5 in 3 bad=!5"},
		{"{a: deep;}", "!22 in 2 deep=" + saidValue(nested(15, number(7, 7)))}, {"{a: deep.a;}", saidValue(nested(15, number(7, 7))) + " in 2 deep=" + saidValue(nested(15, number(7, 7)))}, {"{a: deep; b: none;}", "none in 3 deep=" + saidValue(nested(15, number(7, 7)))}, {"{a: {b: deep.a; c: 1;};}", "!22 in 4 deep=" + saidValue(nested(15, number(7, 7)))},
		{"{a: wide;}", "{a:" + heavy + ";} in 2 wide=" + heavy}, {"{a: wide; b: wide;}", "!30 in 3 wide=" + heavy}, {"{a: wide; b: wide; c: deep;}", "!22 in 4 wide=" + heavy + " deep=" + saidValue(nested(15, number(7, 7)))}, {"{a: wide; b: wide; c: none;}", "none in 4 wide=" + heavy}, {"{a: wide; b: wide; c: lost;}", "!23 in 4 wide=" + heavy + " lost=!23"},
	})
}

// series are numbers with a sign between each two, as a text.
func series(from, n int, sign string) string {
	var l []string
	for i := range n {
		l = append(l, strconv.Itoa(from+i))
	}
	return strings.Join(l, sign)
}

// 19.1: meets and joins of two and more, that come to none, that are too wide; each Kid as soon as it is there.
func TestMeetsAndJoins(t *testing.T) {
	heavy := saidValue(value(row(0, 300)...))
	check(t, []come{
		{"1 & 1", "1 in 3"}, {"1 & 2", "none in 3"}, {"int & >=1 & <=9 & nine", "1..9 in 5 nine=1..9"}, {"any & any", "any in 3"}, {"1 & none & lost", "!23 in 4 lost=!23"}, {"1 & 2 & 3", "none in 4"}, {"{a: 1; ...} & {b: 2; ...} & {c: 3; ...}", "{a:1;b:2;c:3;...} in 7"}, {"{a: 1;} & {b: 2;}", "none in 5"},
		{"1 | 2", "1|2 in 3"}, {"2 | 1 | 2", "1|2 in 4"}, {"none | none", "none in 3"}, {"none | 1", "1 in 3"}, {"1 | int", "int in 3"}, {"int | 1 | any", "any in 4"}, {"string | 1 | {} | false | lost", "!23 in 6 lost=!23"}, {`{} | "a" | 1 | true`, `true|1|"a"|{} in 5`},
		{"x & y", "!23 in 2 x=!23"}, {"bad | lost", "!5 in 2 bad=!5"}, {"lost | bad", "!23 in 2 lost=!23"}, {"4 & four.n & lost", "!27 in 3 four=4"}, {"1 | (2 & bad) | lost", "!5 in 5 bad=!5"},
		// 1 to 27 with 1 to 18 are no more than may be, with 1 to 19 too many.
		{"(" + series(1, 27, " | ") + ") & (" + series(1, 18, " | ") + ")", strings.ReplaceAll(series(1, 18, "|"), " ", "") + " in 48"}, {"(" + series(1, 27, " | ") + ") & (" + series(1, 19, " | ") + ")", "!30 in 49"}, {"(" + series(1, 27, " | ") + ") & (" + series(1, 19, " | ") + ") & bad", "!30 in 49"}, {"(" + series(1, 27, " | ") + ") & bad & (" + series(1, 19, " | ") + ")", "!5 in 30 bad=!5"},
		{"wide | wide", heavy + " in 3 wide=" + heavy}, {"wide | {a: wide;}", "!30 in 4 wide=" + heavy}, {"wide | {a: wide;} | any", "!30 in 4 wide=" + heavy}, {"wide | any | {a: wide;}", "any in 5 wide=" + heavy}, {"wide | bad | {a: wide;}", "!5 in 3 wide=" + heavy + " bad=!5"}, {"wide & 3", "3 in 3 wide=" + heavy}, {"wide & two", "!30 in 3 wide=" + heavy + " two=1|2"}, {"{a: wide; ...} & {b: wide; ...}", "!30 in 5 wide=" + heavy},
	})
}

// 19.1: sums, differences and products of numbers at the bounds and past them, and of texts.
func TestSums(t *testing.T) {
	most, least, root := strconv.Itoa(top), strconv.Itoa(-top), strconv.Itoa(1<<26)
	long := strings.Repeat("x", 255)
	check(t, []come{
		{"2 + 3", "5 in 3"}, {"2 - 3", "-1 in 3"}, {"2 * 3", "6 in 3"}, {"1 + 2 * 3 - 4", "3 in 7"}, {"(1 + 2) * 3", "9 in 5"}, {"1 - 2 - 3", "-4 in 5"}, {"four + four", "8 in 3 four=4"}, {"web.n * 2", `8 in 3 web={n:4;net:{id:"i";};}`}, {"0 * -1", "0 in 3"}, {"-2 * -3", "6 in 3"},
		{most + " + 0", most + " in 3"}, {most + " + 1", "!25 in 3"}, {"1 + " + most, "!25 in 3"}, {most + " + -1", strconv.Itoa(top-1) + " in 3"}, {least + " + -1", "!25 in 3"}, {most + " + " + least, "0 in 3"}, {most + " + " + most, "!25 in 3"},
		{least + " - 0", least + " in 3"}, {least + " - 1", "!25 in 3"}, {most + " - -1", "!25 in 3"}, {"0 - " + least, most + " in 3"}, {"-1 - " + most, "!25 in 3"}, {most + " - " + most, "0 in 3"},
		{root + " * " + strconv.Itoa(1<<27), most + " in 3"}, {root + " * -" + strconv.Itoa(1<<27), least + " in 3"}, {root + " * " + strconv.Itoa(1<<27+1), "!25 in 3"}, {most + " * 2", "!25 in 3"}, {most + " * " + most, "!25 in 3"}, {least + " * -1", most + " in 3"}, {most + " * 0", "0 in 3"},
		{`"a" + "b"`, `"ab" in 3`}, {`"" + ""`, `"" in 3`}, {`"a" + "" + word`, `"aw" in 5 word="w"`}, {`"` + long + `" + "y"`, `"` + long + `y" in 3`}, {`"` + long + `" + "yz"`, "!4 in 3"}, {`"yz" + "` + long + `"`, "!4 in 3"}, {`"y" + "` + long + `"`, `"y` + long + `" in 3`},
		{`"a" - "a"`, "!27 in 3"}, {`"a" * "a"`, "!27 in 3"}, {`"a" * 2`, "!27 in 3"}, {`1 + "a"`, "!27 in 3"}, {`"a" + 1`, "!27 in 3"}, {"true + true", "!27 in 3"}, {"1 + true", "!27 in 3"}, {"{} + {}", "!27 in 3"}, {"1 - {}", "!27 in 3"}, {"{} * 1", "!27 in 3"},
	})
}

// 19.1: sums, differences and products of what is vague, of none, of what is known later: which error is told.
func TestVague(t *testing.T) {
	for _, sign := range []string{"+", "-", "*"} {
		check(t, []come{
			{"1 " + sign + " any", "!28 in 3"}, {"any " + sign + " 1", "!28 in 3"}, {"any " + sign + " none", "!28 in 3"}, {"none " + sign + " any", "!31 in 3"}, {"none " + sign + " 1", "!31 in 3"}, {"1 " + sign + " none", "!31 in 3"}, {"none " + sign + " none", "!31 in 3"}, {"(1 | 2) " + sign + " none", "!28 in 5"}, {"none " + sign + " (1 | 2)", "!31 in 5"}, {"1 " + sign + " (1 | 2)", "!28 in 5"}, {"{} " + sign + " none", "!31 in 3"}, {"true " + sign + " any", "!28 in 3"},
			{"1 " + sign + " int", "!28 in 3"}, {"int " + sign + " 1", "!28 in 3"}, {"int " + sign + " int", "!28 in 3"}, {"1 " + sign + " nine", "!28 in 3 nine=1..9"}, {"int " + sign + " bool", "!27 in 3"}, {"int " + sign + " {}", "!27 in 3"}, {"string " + sign + " 1", "!27 in 3"}, {"bool " + sign + " bool", "!27 in 3"},
			{"soon " + sign + " 1", "int? in 3 soon=int?"}, {"1 " + sign + " soon", "int? in 3 soon=int?"}, {"some " + sign + " soon", "int? in 3 some=3..7? soon=int?"}, {"some " + sign + " some", "int? in 3 some=3..7?"}, {"soon " + sign + " int", "!28 in 3 soon=int?"}, {"int " + sign + " soon", "!28 in 3 soon=int?"}, {"soon " + sign + " any", "!28 in 3 soon=int?"}, {"soon " + sign + " none", "!31 in 3 soon=int?"}, {"none " + sign + " soon", "!31 in 3 soon=int?"}, {"soon " + sign + " true", "!27 in 3 soon=int?"}, {"maybe " + sign + " 1", "!27 in 3 maybe=bool?"}, {"maybe " + sign + " maybe", "!27 in 3 maybe=bool?"}, {"soon " + sign + " say", "!27 in 3 soon=int? say=string?"},
			{"bad " + sign + " lost", "!5 in 2 bad=!5"}, {"none " + sign + " lost", "!23 in 3 lost=!23"}, {"true " + sign + " bad", "!5 in 3 bad=!5"}, {"any " + sign + " (1 " + sign + " true)", "!27 in 5"}, {"(1 " + sign + " true) " + sign + " bad", "!27 in 4"},
		})
	}
	check(t, []come{
		{`say + "a"`, "string? in 3 say=string?"}, {`"a" + say`, "string? in 3 say=string?"}, {"say + say", "string? in 3 say=string?"}, {`str + "a"`, "!28 in 3 str=string"}, {`"a" + str`, "!28 in 3 str=string"}, {"str + str", "!28 in 3 str=string"}, {"str + say", "!28 in 3 str=string say=string?"}, {"say + str", "!28 in 3 say=string? str=string"}, {"say - say", "!27 in 3 say=string?"}, {"str - str", "!27 in 3 str=string"}, {"say * say", "!27 in 3 say=string?"}, {"more.s + word", `string? in 3 more={n:1..9;s:string?;...} word="w"`},
	})
}

// 19.1: nodes of one definition and of several, that agree, that do not, one of which comes to an error; the order in which names were read first.
func TestDefinitions(t *testing.T) {
	check(t, []come{
		{"1", "1 in 1"}, {"1;; int", "1 in 2"}, {"1;; 1;; 1", "1 in 3"}, {"1;; 2", "none in 2"}, {"1;; 2;; bad", "!5 in 3 bad=!5"}, {"bad;; lost", "!5 in 1 bad=!5"}, {"lost;; bad", "!23 in 1 lost=!23"}, {"1 | 2;; 2 | 3", "2 in 6"}, {"{a: 1; ...};; {b: 2; ...};; {a: int; b: int;}", "{a:1;b:2;} in 7"}, {">=1;; <=9;; computed", "1..9? in 3"},
		{series(1, 27, " | ") + ";; " + series(1, 19, " | "), "!30 in 48"}, {series(1, 27, " | ") + ";; " + series(1, 19, " | ") + ";; bad", "!30 in 48"}, {series(1, 27, " | ") + ";; bad;; " + series(1, 19, " | "), "!5 in 29 bad=!5"},
		{"four;; nine", "4 in 2 four=4 nine=1..9"}, {"nine;; four", "4 in 2 nine=1..9 four=4"}, {"nine & four;; four & nine;; num", "4 in 7 nine=1..9 four=4 num=int"}, {"four;; four;; four.n", "!27 in 3 four=4"}, {"lost | lost", "!23 in 2 lost=!23"}, {"{b: nine; a: four; c: nine;}", "{a:4;b:1..9;c:1..9;} in 4 four=4 nine=1..9"},
		{"some & (nine | word) & any;; computed;; nine - 1", `!28 in 10 some=3..7? nine=1..9 word="w"`},
	})
}

// 19.1: ErrArg, without steps and reads, if there are no definitions, one may not be, or there is no reader; ahead of what fuel tells.
func TestRefused(t *testing.T) {
	one, ref := api.Expr{Op: api.OpInt, N: 1}, api.Expr{Op: api.OpRef, Path: []string{"four"}}
	deep := one
	for range 16 {
		deep = api.Expr{Op: api.OpAdd, Kids: []api.Expr{deep, one}}
	}
	kids := func(op int, l ...api.Expr) api.Expr { return api.Expr{Op: op, Kids: l} }
	wrong := []api.Expr{
		{}, {Op: 16}, {Op: -1}, {Op: api.OpInt, N: top + 1}, {Op: api.OpAtMost, N: math.MinInt}, {Op: api.OpText, Text: strings.Repeat("x", 257)}, {Op: api.OpBool, N: 2}, {Op: api.OpKind}, {Op: api.OpKind, N: api.KStruct}, {Op: api.OpNone, N: 1}, {Op: api.OpLater, Text: "a"},
		{Op: api.OpRef}, {Op: api.OpRef, Path: []string{"int"}}, {Op: api.OpRef, Path: []string{"four", ""}}, {Op: api.OpInt, Path: []string{"four"}},
		{Op: api.OpStruct, Pairs: []api.Pair{{Name: "b", E: one}, {Name: "a", E: one}}}, {Op: api.OpStruct, Pairs: []api.Pair{{Name: "a"}}}, {Op: api.OpStruct, Kids: []api.Expr{one}},
		kids(api.OpMeet), kids(api.OpMeet, one), kids(api.OpJoin, ref), kids(api.OpMeet, slices.Repeat([]api.Expr{one}, 33)...), kids(api.OpAdd, one), kids(api.OpSub, one, one, one), kids(api.OpMul, one, api.Expr{}), kids(api.OpInt, one), deep,
	}
	var lists [][]api.Expr
	for _, e := range wrong {
		lists = append(lists, []api.Expr{e}, []api.Expr{ref, e}, []api.Expr{e, ref}, []api.Expr{ref, ref, e, one})
	}
	const want = "!1 in 0"
	for _, l := range append(lists, nil, []api.Expr{}) {
		for _, fuel := range []int{plenty, 0, -1, 1} {
			if got := saidOut(eval.Node(l, fuel, world())); got != want {
				t.Errorf("%v with %d: %s", l, fuel, got)
			}
			if got := saidOut(eval.Node(l, fuel, nil)); got != want {
				t.Errorf("%v with %d, no reader: %s", l, fuel, got)
			}
		}
	}
	for _, l := range [][]api.Expr{{one}, {ref}, {one, ref}, {deep.Kids[0]}} {
		if got := saidOut(eval.Node(l, plenty, nil)); got != want {
			t.Errorf("%v, no reader: %s", l, got)
		}
		if o := eval.Node(l, plenty, world()); o.R.E != api.OK && o.R.E != api.ErrOver {
			t.Errorf("%v: %s", l, saidOut(o))
		}
	}
	if e := expr.Check(deep); e != api.ErrDepth {
		t.Errorf("%d: the test means an expression that is right, and too deep", e)
	}
}

// 19.1: fuel of 0, below 0, of just as many steps as it takes, of one less and of more; what was read till it ended.
func TestFuel(t *testing.T) {
	for _, c := range []struct {
		defs string
		fuel int
		want string
	}{
		{"1", 1, "1 in 1"}, {"1", 0, "!26 in 0"}, {"1", -1, "!26 in 0"}, {"1", math.MinInt, "!26 in 0"}, {"1", math.MaxInt, "1 in 1"}, {"1", 2, "1 in 1"}, {"lost", 0, "!26 in 0"}, {"lost", 1, "!23 in 1 lost=!23"},
		{"1 + 2", 3, "3 in 3"}, {"1 + 2", 2, "!26 in 2"}, {"1 + 2", 1, "!26 in 1"}, {"1 + 2", 0, "!26 in 0"}, {"1 + 2", 4, "3 in 3"}, {"1 + any", 3, "!28 in 3"}, {"1 + any", 2, "!26 in 2"}, {"bad + four", 2, "!5 in 2 bad=!5"}, {"bad + four", 1, "!26 in 1"},
		{"four & nine & num", 4, "4 in 4 four=4 nine=1..9 num=int"}, {"four & nine & num", 3, "!26 in 3 four=4 nine=1..9"}, {"four & nine & num", 2, "!26 in 2 four=4"}, {"1 & 2 & bad", 3, "!26 in 3"}, {"four | nine | lost", 3, "!26 in 3 four=4 nine=1..9"},
		{"{a: 1; b: four; c: 2;}", 4, "{a:1;b:4;c:2;} in 4 four=4"}, {"{a: 1; b: four; c: 2;}", 3, "!26 in 3 four=4"}, {"{a: 1; b: four; c: 2;}", 2, "!26 in 2"}, {"{}", 1, "{} in 1"}, {"{}", 0, "!26 in 0"}, {"{a: none; b: 1;}", 2, "!26 in 2"},
		{"four;; nine;; num", 3, "4 in 3 four=4 nine=1..9 num=int"}, {"four;; nine;; num", 2, "!26 in 2 four=4 nine=1..9"}, {"four;; nine;; num", 1, "!26 in 1 four=4"}, {"1;; 2;; 3", 2, "!26 in 2"}, {"computed", 1, "bool?|int?|string? in 1"}, {"computed", 0, "!26 in 0"}, {">=1", 0, "!26 in 0"}, {"web.n", 1, `4 in 1 web={n:4;net:{id:"i";};}`}, {"web.m", 0, "!26 in 0"},
	} {
		if got := saidOut(eval.Node(defs(t, c.defs), c.fuel, world())); got != c.want {
			t.Errorf("%s with %d: %s, not %s", c.defs, c.fuel, got, c.want)
		}
	}
}

// 19.1: List's Read of a name that is there, that is there twice, that isn't; of names that are none; what it tells is as it stands there.
func TestList(t *testing.T) {
	for s, want := range map[string]string{"four": "4", "two": "1|2", "void": "none", "bad": "!5", "odd": "!-77 beside true", "wrong": "true|false", "lost": "!23", "": "!23", "Four": "!23", "four.n": "!23", "\xff": "!23"} {
		if got := said(world().Read(s)); got != want {
			t.Errorf("Read of %q: %s, not %s", s, got, want)
		}
	}
	for _, l := range []eval.List{nil, {}} {
		if got := said(l.Read("four")); got != "!23" {
			t.Errorf("Read of nothing: %s", got)
		}
	}
	if got := said(eval.List{{Name: "", R: api.Result{V: value(yes)}}}.Read("")); got != "true" {
		t.Errorf("Read of no name: %s", got)
	}
	l := eval.List{{Name: "a", R: api.Result{E: 7}}, {Name: "a", R: api.Result{V: value(yes)}}}
	if got := said(l.Read("a")); got != "!7" {
		t.Errorf("Read of a name that is there twice: %s", got)
	}
	if got := saidOut(eval.Node(defs(t, "a"), plenty, eval.List(nil))); got != "!23 in 1 a=!23" {
		t.Errorf("Node that reads a list of nothing: %s", got)
	}
}
