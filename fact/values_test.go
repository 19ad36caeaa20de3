package fact_test

import (
	"slices"
	"strconv"
	"strings"

	"treillage/api"
	"treillage/lat"
)

// top is the greatest number of the language.
const top = 1 << 53

// The terms that have no parts.
var (
	no      = api.Term{Kind: 1}
	yes     = api.Term{Kind: 1, Lo: 1, Hi: 1}
	both    = api.Term{Kind: 1, Hi: 1}
	numbers = api.Term{Kind: 2, Lo: -top, Hi: top}
	texts   = api.Term{Kind: 3, Any: true}
	all     = api.Term{Kind: 5}
)

// value is a value of some terms.
func value(l ...api.Term) api.Value { return api.Value{Terms: l} }

// number are the numbers from lo to hi.
func number(lo, hi int) api.Term { return api.Term{Kind: 2, Lo: lo, Hi: hi} }

// text is just a text.
func text(s string) api.Term { return api.Term{Kind: 3, Text: s} }

// maybe is a term that is known later.
func maybe(t api.Term) api.Term {
	t.Maybe = true
	return t
}

// field is a field of which the value has some terms.
func field(name string, l ...api.Term) api.Field { return api.Field{Name: name, V: value(l...)} }

// closed is a struct that has some fields alone.
func closed(l ...api.Field) api.Term { return api.Term{Kind: 4, Fields: l} }

// open is a struct that has some fields, and more.
func open(l ...api.Field) api.Term { return api.Term{Kind: 4, Open: true, Fields: l} }

// row are n numbers, each one a term.
func row(n int) []api.Term {
	var l []api.Term
	for i := range n {
		l = append(l, number(i, i))
	}
	return l
}

// fields are n fields, each with some terms.
func fields(n int, l ...api.Term) []api.Field {
	var out []api.Field
	for i := range n {
		out = append(out, field("f"+strconv.Itoa(100+i), l...))
	}
	return out
}

// nested is a value within n structs, each the field a of the one around it.
func nested(n int, l ...api.Term) api.Value {
	v := value(l...)
	for range n {
		v = value(closed(api.Field{Name: "a", V: v}))
	}
	return v
}

// dice are numbers that have no order to be seen.
type dice uint32

// roll is a number from 0 up to below n.
func (d *dice) roll(n int) int {
	*d = *d*1664525 + 1013904223
	return int(uint32(*d)>>8) % n
}

// rolled is a right value, of one term more often than not.
func rolled(d *dice, depth int) api.Value {
	var l []api.Term
	for range []int{1, 1, 1, 1, 1, 1, 0, 2}[d.roll(8)] {
		l = append(l, rolledTerm(d, depth))
	}
	v, _ := lat.Of(l...)
	return v
}

// rolledTerm is a right term out of so few that one is often below another one.
func rolledTerm(d *dice, depth int) api.Term {
	if depth > 0 && d.roll(3) > 0 {
		t := api.Term{Kind: 4, Open: d.roll(2) == 0}
		for _, k := range []string{"a", "b", "c"} {
			if v := rolled(d, depth-1); len(v.Terms) > 0 && d.roll(2) > 0 {
				t.Fields = append(t.Fields, api.Field{Name: k, V: v})
			}
		}
		return t
	}
	lo := d.roll(3)
	l := []api.Term{no, yes, yes, number(lo, lo), number(lo, lo), text(""), text("a"), text("a"), both, maybe(both), number(lo, lo+d.roll(3)), maybe(number(lo, lo+1+d.roll(3))), maybe(numbers), texts, maybe(texts), all}
	return l[d.roll(len(l))]
}

// manyRolled are many of them.
func manyRolled(n int) []api.Value {
	var l []api.Value
	for i := range n {
		l = append(l, rolled(new(dice(i)), i%4))
	}
	return l
}

// broken are values that are not right: each one but for one thing, without which it would be one thing, and often settled.
func broken() []api.Value {
	inner := fields(1, yes)
	l := []api.Value{
		value(api.Term{}), value(api.Term{Kind: 6}), value(api.Term{Kind: -1}), value(api.Term{Kind: 6, Maybe: true}),
		value(api.Term{Kind: 1, Lo: 2, Hi: 2}), value(api.Term{Kind: 1, Lo: 1}), value(maybe(yes)), value(api.Term{Kind: 1, Any: true}), value(api.Term{Kind: 1, Text: "a"}), value(api.Term{Kind: 1, Open: true}),
		value(number(top+1, top+1)), value(number(-top-1, -top-1)), value(number(2, 1)), value(maybe(number(2, 1))), value(maybe(number(4, 4))), value(api.Term{Kind: 2, Text: "a"}), value(api.Term{Kind: 2, Any: true}), value(api.Term{Kind: 2, Fields: inner}),
		value(text(strings.Repeat("x", 257))), value(maybe(text("a"))), value(api.Term{Kind: 3, Text: "a", Any: true}), value(api.Term{Kind: 3, Text: "a", Lo: 1}), value(api.Term{Kind: 3, Text: "a", Open: true}),
		value(maybe(all)), value(api.Term{Kind: 5, Open: true}), value(api.Term{Kind: 5, Fields: inner}),
		value(maybe(closed())), value(maybe(open(inner...))), value(api.Term{Kind: 4, Lo: 1}), value(api.Term{Kind: 4, Text: "a"}), value(api.Term{Kind: 4, Any: true}),
		value(closed(fields(33, yes)...)), value(closed(field("", yes))), value(closed(field("A", yes))), value(closed(field("any", yes))), value(closed(field("b", yes), field("a", yes))), value(closed(field("a", yes), field("a", yes))), value(closed(field("a"))), value(open(field("a", yes), field("b"))),
		value(yes, no), value(yes, yes), value(number(1, 9), number(3, 3)), value(texts, text("a")), value(maybe(texts), text("a")), value(no, all), value(closed(), open()),
		value(row(513)...), value(closed(field("a", row(512)...))), nested(16, yes), nested(16, maybe(both)), nested(17), nested(200, yes),
	}
	for _, v := range slices.Clone(l) {
		l = append(l, nested(1, v.Terms...), nested(7, v.Terms...), value(open(field("a", yes), api.Field{Name: "b", V: v}, field("c", maybe(texts)))))
	}
	return l
}
