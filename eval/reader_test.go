package eval_test

import (
	"errors"
	"math"
	"reflect"
	"slices"
	"strconv"
	"strings"
	"testing"

	"treillage/api"
	"treillage/eval"
	"treillage/expr"
	"treillage/rank"
)

// asked is a reader that is a function.
type asked func(s string) api.Result

func (f asked) Read(s string) api.Result { return f(s) }

// 19.1: a reader is asked each name once, when it is read first, whatever it would answer the next time.
func TestAskedOnce(t *testing.T) {
	var log []string
	r := asked(func(s string) api.Result {
		log = append(log, s)
		return api.Result{V: value(number(len(log), len(log)))}
	})
	got := saidOut(eval.Node(defs(t, "{a: x + y; b: x; c: z - y;};; {b: x; a: any; c: any;}"), plenty, r))
	if want := "{a:3;b:1;c:1;} in 12 x=1 y=2 z=3"; got != want || !slices.Equal(log, []string{"x", "y", "z"}) {
		t.Errorf("%s, asked %v", got, log)
	}
	log = nil
	if got := saidOut(eval.Node(defs(t, "x & y & z"), 3, r)); got != "!26 in 3 x=1 y=2" || len(log) != 2 {
		t.Errorf("%s, asked %v", got, log)
	}
	log = nil
	eval.Node(append(defs(t, "x"), api.Expr{}), plenty, r)
	eval.Node(defs(t, "1 & x"), 0, r)
	if len(log) != 0 {
		t.Errorf("asked %v, though nothing was to be read", log)
	}
}

// 19.1: a reader may evaluate nodes itself, whose errors and steps are its own.
func TestWithin(t *testing.T) {
	inner := defs(t, "four + 1")
	wrong := defs(t, "1 + lost")
	r := asked(func(s string) api.Result {
		if s == "a" {
			return eval.Node(inner, 3, world()).R
		}
		return eval.Node(wrong, plenty, world()).R
	})
	if got := saidOut(eval.Node(defs(t, "a * 2"), 3, r)); got != "10 in 3 a=5" {
		t.Errorf("a node within a node: %s", got)
	}
	if got := saidOut(eval.Node(defs(t, "a & b"), plenty, r)); got != "!23 in 3 a=5 b=!23" {
		t.Errorf("a node within a node, with an error: %s", got)
	}
}

// R1: answers of all kinds: any errors, values that are great, deep, or not right; and readers that answer nothing.
func TestAnswers(t *testing.T) {
	deep, long := nested(1<<14, yes), value(text(strings.Repeat("x", 257)))
	for want, r := range map[string]api.Result{
		"!1": {V: deep}, "!1 ": {V: long}, "!1  ": {V: value(row(0, 513)...)}, "!1   ": {V: value(api.Term{})}, "!1    ": {V: nested(16, yes)}, "!1     ": {E: api.ErrArg, V: deep}, "!33": {E: api.ErrState, V: long}, "!-9223372036854775808": {E: math.MinInt}, "!9223372036854775807": {E: math.MaxInt, V: value(yes)}, "none": {V: api.Value{Terms: []api.Term{}}},
	} {
		want = strings.TrimSpace(want)
		answer := asked(func(string) api.Result { return r })
		if got := saidOut(eval.Node(defs(t, "a"), plenty, answer)); got != want+" in 1 a="+want {
			t.Errorf("of what is not %s: %.200s", want, got)
		}
	}
	var nobody *struct{ eval.Reader }
	for _, r := range []eval.Reader{
		asked(nil), nobody, struct{ eval.Reader }{},
		asked(func(string) api.Result { panic("foreign") }), asked(func(string) api.Result { panic(errors.New("foreign")) }), asked(func(string) api.Result { panic(nil) }),
	} {
		if got := saidOut(eval.Node(defs(t, "four | 1"), plenty, r)); got != "!1 in 2 four=!1" {
			t.Errorf("of a reader that panics: %s", got)
		}
		if got := saidOut(eval.Node(defs(t, "1 | 2"), plenty, r)); got != "1|2 in 3" {
			t.Errorf("of a reader that is not asked: %s", got)
		}
	}
}

// R1: any definitions: such as may not be, turned out of such as may; deep ones, great ones.
func TestAnyDefinitions(t *testing.T) {
	wrongs := 0
	for i := range 3000 {
		d := new(dice(i))
		l := rolledDefs(d)
		for range d.roll(3) {
			spoil(d, &l[d.roll(len(l))])
		}
		ok := true
		for _, e := range l {
			ok = ok && expr.Check(e) == api.OK
		}
		o := eval.Node(l, plenty, rolledList(d))
		if !ok {
			wrongs++
		}
		if (saidOut(o) == "!1 in 0") == ok {
			t.Fatalf("%v: %s", l, saidOut(o))
		}
	}
	if wrongs < 500 {
		t.Errorf("only %d could not be", wrongs)
	}
	one := api.Expr{Op: api.OpRef, Path: []string{"four"}}
	deep := one
	for range 1 << 14 {
		deep = api.Expr{Op: api.OpJoin, Kids: []api.Expr{one, deep}}
	}
	if got := saidOut(eval.Node([]api.Expr{one, deep}, plenty, world())); got != "!1 in 0" {
		t.Errorf("a deep one: %s", got)
	}
}

// spoil turns an expression into another one, which perhaps may not be.
func spoil(d *dice, e *api.Expr) {
	for len(e.Kids) > 0 && d.roll(2) > 0 {
		e = &e.Kids[d.roll(len(e.Kids))]
	}
	switch d.roll(8) {
	case 0:
		e.Op = d.roll(18) - 1
	case 1:
		e.N++
	case 2:
		e.Text += "a"
	case 3:
		e.Path = append(slices.Clone(e.Path), []string{"a", "int", ""}[d.roll(3)])
	case 4:
		e.Open = !e.Open
	case 5:
		e.Kids = append(slices.Clone(e.Kids), rolledUnit(d))
	case 6:
		e.Kids = e.Kids[:len(e.Kids)/2]
	case 7:
		e.Pairs = append(slices.Clone(e.Pairs), api.Pair{Name: []string{"a", "d", "int"}[d.roll(3)], E: rolledUnit(d)})
	}
}

// 19.1: very many definitions, each a step, and names, each read once.
func TestMany(t *testing.T) {
	var l []api.Expr
	var list eval.List
	squares := map[string]bool{}
	for i := range 3000 {
		s := "n" + strconv.Itoa(i*i%1000)
		squares[s] = true
		l = append(l, api.Expr{Op: api.OpRef, Path: []string{s}})
		list = append(list, api.Dep{Name: s, R: api.Result{V: value(number(-i, 9))}})
	}
	o := eval.Node(l, 3000, list)
	if o.R.E != api.OK || o.Steps != 3000 || len(o.Deps) != len(squares) {
		t.Errorf("%s in %d, %d names", said(o.R), o.Steps, len(o.Deps))
	}
}

// lists are where the elements of a value's lists stand.
func lists(v api.Value) (l []any) {
	for i := range v.Terms {
		l = append(l, &v.Terms[i])
		for j := range v.Terms[i].Fields {
			l = append(l, &v.Terms[i].Fields[j])
			l = append(l, lists(v.Terms[i].Fields[j].V)...)
		}
	}
	return l
}

// R5: what is answered shares no memory with what was read, with any's own lists, or with one another; nothing that was handed in is changed.
func TestMemory(t *testing.T) {
	kept := map[string]api.Result{}
	fixed := world()
	for _, d := range fixed {
		if _, ok := kept[d.Name]; !ok {
			kept[d.Name] = d.R
		}
	}
	own := asked(func(s string) api.Result { return kept[s] })
	for _, s := range []string{"web", "web.net", "more", "any", "all", "computed", "two;; two", "two;; any", "any;; two", "web;; any", "any & web", "none | web", "web | web", "{a: web; b: web; c: web.net; d: web.net;}", "{a: all; b: all;};; {a: web; b: web;}", "wrong", "odd", "pair | pair", "deep.a & deep.a", "more & web"} {
		for _, r := range []eval.Reader{own, fixed} {
			l := defs(t, s)
			was := make([]api.Expr, len(l))
			for i := range l {
				was[i] = expr.Copy(l[i])
			}
			o := eval.Node(l, plenty, r)
			told := saidOut(o)
			seen := map[any]bool{}
			values := []api.Value{o.R.V}
			for _, d := range o.Deps {
				values = append(values, d.R.V)
			}
			for _, d := range fixed {
				values = append(values, d.R.V)
			}
			for _, v := range values {
				for _, p := range lists(v) {
					if seen[p] {
						t.Fatalf("%s: memory is shared", s)
					}
					seen[p] = true
				}
			}
			if !reflect.DeepEqual(l, was) || saidOut(eval.Node(l, plenty, world())) != told {
				t.Errorf("%s: what was handed in has changed", s)
			}
		}
	}
	if !reflect.DeepEqual(fixed, world()) {
		t.Errorf("what was read has changed")
	}
}

// R5: what a reader answered may be changed behind that; what List's Read answered, too.
func TestChangedBehind(t *testing.T) {
	mine := []api.Term{closed(field("n", number(4, 4)))}
	r := asked(func(s string) api.Result {
		if s == "b" {
			mine[0].Fields[0].V.Terms[0] = yes
			mine[0] = no
		}
		return api.Result{V: api.Value{Terms: mine}}
	})
	if got := saidOut(eval.Node(defs(t, "{x: a; y: b; z: a.n;}"), plenty, r)); got != "{x:{n:4;};y:false;z:4;} in 4 a={n:4;} b=false" {
		t.Errorf("what was answered has changed: %s", got)
	}
	l := world()
	v := l.Read("web").V
	v.Terms[0].Fields[0].V.Terms[0] = no
	v.Terms[0].Fields[1] = field("x", no)
	v.Terms[0] = no
	if !rank.Same(l.Read("web").V, world().Read("web").V) {
		t.Errorf("what a list has has changed")
	}
}

// R5: what lies behind a list's length is not looked at.
func TestBehindLength(t *testing.T) {
	foreign := api.Expr{Op: 99}
	l := append(defs(t, "{a: four; b: 1 | 2;};; any"), foreign)[:2]
	l[0].Pairs = append(l[0].Pairs, api.Pair{Name: "int", E: foreign})[:2]
	kids := l[0].Pairs[1].E.Kids
	l[0].Pairs[1].E.Kids = append(kids, foreign)[:2]
	l[0].Pairs[0].E.Path = append(l[0].Pairs[0].E.Path, "n")[:1]
	list := append(world(), api.Dep{Name: "behind"})
	list = list[:len(list)-1]
	list[0].R.V.Terms = append(list[0].R.V.Terms, api.Term{Kind: 77})[:1]
	if got := saidOut(eval.Node(l, plenty, list)); got != "{a:4;b:1|2;} in 6 four=4" {
		t.Errorf("with lists that go on: %s", got)
	}
	if got := said(list.Read("behind")); got != "!23" {
		t.Errorf("behind the list: %s", got)
	}
	if l[:3][2].Op != 99 || l[0].Pairs[:3][2].Name != "int" || list[0].R.V.Terms[:2][1].Kind != 77 {
		t.Errorf("what lies behind a list has changed")
	}
}
