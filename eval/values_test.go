package eval_test

import (
	"fmt"
	"strconv"
	"strings"
	"testing"

	"treillage/api"
	"treillage/eval"
	"treillage/parse"
	"treillage/rank"
)

// top is the greatest number of the language.
const top = 1 << 53

// plenty is more fuel than any of the tests' expressions take.
const plenty = 1 << 20

// The terms that have no parts.
var (
	no      = api.Term{Kind: 1}
	yes     = api.Term{Kind: 1, Lo: 1, Hi: 1}
	both    = api.Term{Kind: 1, Hi: 1}
	numbers = api.Term{Kind: 2, Lo: -top, Hi: top}
	texts   = api.Term{Kind: 3, Any: true}
	all     = api.Term{Kind: 5}
)

// value is a value of some terms.
func value(l ...api.Term) api.Value { return api.Value{Terms: l} }

// number are the numbers from lo to hi.
func number(lo, hi int) api.Term { return api.Term{Kind: 2, Lo: lo, Hi: hi} }

// text is just a text.
func text(s string) api.Term { return api.Term{Kind: 3, Text: s} }

// maybe is a term that is known later.
func maybe(t api.Term) api.Term {
	t.Maybe = true
	return t
}

// field is a field of which the value has some terms.
func field(name string, l ...api.Term) api.Field { return api.Field{Name: name, V: value(l...)} }

// closed is a struct that has some fields alone.
func closed(l ...api.Field) api.Term { return api.Term{Kind: 4, Fields: l} }

// open is a struct that has some fields, and more.
func open(l ...api.Field) api.Term { return api.Term{Kind: 4, Open: true, Fields: l} }

// row are the n numbers from some place on, each one a term.
func row(from, n int) []api.Term {
	var l []api.Term
	for i := range n {
		l = append(l, number(from+i, from+i))
	}
	return l
}

// nested is a value within n structs, each the field a of the one around it.
func nested(n int, l ...api.Term) api.Value {
	v := value(l...)
	for range n {
		v = value(closed(api.Field{Name: "a", V: v}))
	}
	return v
}

// said is a result as a text of the tests' own: an error as its number with a mark ahead.
func said(r api.Result) string {
	if r.E == api.OK {
		return saidValue(r.V)
	}
	s := "!" + strconv.Itoa(int(r.E))
	if len(r.V.Terms) > 0 {
		s += " beside " + saidValue(r.V)
	}
	return s
}

// saidValue is a value as a text: its terms, with a mark behind those that are known later.
func saidValue(v api.Value) string {
	if len(v.Terms) == 0 {
		return "none"
	}
	var l []string
	for _, t := range v.Terms {
		s := saidTerm(t)
		if t.Maybe {
			s += "?"
		}
		l = append(l, s)
	}
	return strings.Join(l, "|")
}

// saidTerm is a term as a text.
func saidTerm(t api.Term) string {
	bare := t
	bare.Maybe = false
	switch {
	case rank.Terms(bare, both) == 0:
		return "bool"
	case rank.Terms(bare, no) == 0:
		return "false"
	case rank.Terms(bare, yes) == 0:
		return "true"
	case rank.Terms(bare, numbers) == 0:
		return "int"
	case rank.Terms(bare, texts) == 0:
		return "string"
	case rank.Terms(bare, all) == 0:
		return "any"
	case rank.Terms(bare, number(t.Lo, t.Lo)) == 0:
		return strconv.Itoa(t.Lo)
	case rank.Terms(bare, number(t.Lo, t.Hi)) == 0:
		return strconv.Itoa(t.Lo) + ".." + strconv.Itoa(t.Hi)
	case rank.Terms(bare, text(t.Text)) == 0:
		return strconv.Quote(t.Text)
	case rank.Terms(bare, closed(t.Fields...)) == 0:
		return "{" + saidFields(t.Fields) + "}"
	case rank.Terms(bare, open(t.Fields...)) == 0:
		return "{" + saidFields(t.Fields) + "...}"
	}
	return fmt.Sprintf("%#v", t)
}

// saidFields are fields as a text.
func saidFields(l []api.Field) string {
	s := ""
	for _, f := range l {
		s += f.Name + ":" + saidValue(f.V) + ";"
	}
	return s
}

// saidOut is all that Node tells: what the node comes to, its steps, and what was read.
func saidOut(o eval.Out) string {
	s := said(o.R) + " in " + strconv.Itoa(o.Steps)
	for _, d := range o.Deps {
		s += " " + d.Name + "=" + said(d.R)
	}
	return s
}

// defs are definitions out of their texts, with a semicolon ahead of each but the first.
func defs(t *testing.T, s string) []api.Expr {
	t.Helper()
	x, _, e := parse.Parse("x: " + strings.ReplaceAll(s, ";;", "; x: ") + ";")
	if e != api.OK {
		t.Fatalf("%s can't be read: %d", s, e)
	}
	var l []api.Expr
	for _, d := range x {
		l = append(l, d.E)
	}
	return l
}

// world is what most tests' expressions read.
func world() eval.List {
	dep := func(name string, l ...api.Term) api.Dep { return api.Dep{Name: name, R: api.Result{V: value(l...)}} }
	return eval.List{
		dep("four", number(4, 4)), dep("nine", number(1, 9)), dep("word", text("w")), dep("yes", yes),
		dep("two", number(1, 1), number(2, 2)), dep("all", all), dep("void"), dep("num", numbers), dep("str", texts),
		dep("soon", maybe(numbers)), dep("say", maybe(texts)), dep("some", maybe(number(3, 7))), dep("maybe", maybe(both)),
		dep("web", closed(field("n", number(4, 4)), field("net", closed(field("id", text("i")))))),
		dep("more", open(field("n", number(1, 9)), field("s", maybe(texts)))),
		dep("pair", closed(field("n", yes)), open(field("n", no))),
		{Name: "deep", R: api.Result{V: nested(15, number(7, 7))}},
		dep("wide", row(0, 300)...),
		{Name: "bad", R: api.Result{E: api.ErrNone}},
		{Name: "odd", R: api.Result{E: -77, V: value(yes)}},
		{Name: "wrong", R: api.Result{V: value(yes, no)}},
		{Name: "four", R: api.Result{V: value(number(5, 5))}},
	}
}

// dice are numbers that have no order to be seen.
type dice uint32

// roll is a number from 0 up to below n.
func (d *dice) roll(n int) int {
	*d = *d*1664525 + 1013904223
	return int(uint32(*d)>>8) % n
}
