package lat_test

import (
	"slices"
	"strconv"
	"strings"

	"treillage/api"
	"treillage/name"
	"treillage/rank"
	"treillage/scalar"
)

// top is the greatest number of the language.
const top = 1 << 53

// value is a value of some terms.
func value(l ...api.Term) api.Value { return api.Value{Terms: l} }

// number are the numbers from lo to hi.
func number(lo, hi int) api.Term { return api.Term{Kind: 2, Lo: lo, Hi: hi} }

// text is just a text.
func text(s string) api.Term { return api.Term{Kind: 3, Text: s} }

// maybe is a term with Maybe.
func maybe(t api.Term) api.Term {
	t.Maybe = true
	return t
}

// field is a field of which the value has some terms.
func field(name string, l ...api.Term) api.Field { return api.Field{Name: name, V: value(l...)} }

// closed is a struct that has some fields alone.
func closed(l ...api.Field) api.Term { return api.Term{Kind: 4, Fields: l} }

// open is a struct that has some fields, and more.
func open(l ...api.Field) api.Term { return api.Term{Kind: 4, Open: true, Fields: l} }

// The terms that are all of a kind, or one thing of KBool.
var (
	no      = api.Term{Kind: 1}
	yes     = api.Term{Kind: 1, Lo: 1, Hi: 1}
	both    = api.Term{Kind: 1, Hi: 1}
	numbers = api.Term{Kind: 2, Lo: -top, Hi: top}
	texts   = api.Term{Kind: 3, Any: true}
	all     = api.Term{Kind: 5}
)

// row are the n numbers from some place on, each one a term.
func row(from, n int) []api.Term {
	var l []api.Term
	for i := range n {
		l = append(l, number(from+i, from+i))
	}
	return l
}

// words are the n texts from some place on, each one a term.
func words(from, n int) []api.Term {
	var l []api.Term
	for i := range n {
		l = append(l, text(strconv.Itoa(1000+from+i)))
	}
	return l
}

// key is the i-th of names that rise.
func key(i int) string { return "f" + strconv.Itoa(100+i) }

// fields are the n fields from some place on, each with some terms.
func fields(from, n int, l ...api.Term) []api.Field {
	var out []api.Field
	for i := range n {
		out = append(out, field(key(from+i), l...))
	}
	return out
}

// nested is a value within n structs.
func nested(n int, l ...api.Term) api.Value {
	v := value(l...)
	for range n {
		v = value(closed(api.Field{Name: "a", V: v}))
	}
	return v
}

// modelTerm tells whether a term is right by the chapter's words.
func modelTerm(t api.Term) bool {
	if scalar.Right(t) {
		return true
	}
	if t.Lo != 0 || t.Hi != 0 || t.Text != "" || t.Any || t.Maybe {
		return false
	}
	if t.Kind == 5 {
		return !t.Open && len(t.Fields) == 0
	}
	for i, f := range t.Fields {
		if !name.Right(f.Name) || i > 0 && t.Fields[i-1].Name >= f.Name || !modelRight(f.V) || len(f.V.Terms) == 0 {
			return false
		}
	}
	return t.Kind == 4 && len(t.Fields) <= 32
}

// modelRight tells whether a value is right by the chapter's words.
func modelRight(v api.Value) bool {
	for i, s := range v.Terms {
		if !modelTerm(s) || i > 0 && rank.Terms(v.Terms[i-1], s) >= 0 {
			return false
		}
	}
	for i, s := range v.Terms {
		for j, t := range v.Terms {
			if i != j && modelUnder(s, t) {
				return false
			}
		}
	}
	return rank.Weight(v) <= 512 && rank.Depth(v) <= 16
}

// named is a struct's fields by their names.
func named(t api.Term) map[string]api.Value {
	m := map[string]api.Value{}
	for _, f := range t.Fields {
		m[f.Name] = f.V
	}
	return m
}

// modelUnder tells whether a right term is below another one by the chapter's words.
func modelUnder(s, t api.Term) bool {
	if t.Kind == 5 {
		return true
	}
	if s.Kind != 4 || t.Kind != 4 {
		return s.Kind == t.Kind && scalar.Below(s, t)
	}
	own, other := named(s), named(t)
	for k, v := range other {
		if w, ok := own[k]; !ok || !modelBelow(w, v) {
			return false
		}
	}
	return (!s.Open || t.Open) && (t.Open || len(own) == len(other))
}

// modelBelow tells whether a right value is below another one by the chapter's words.
func modelBelow(a, b api.Value) bool {
	for _, s := range a.Terms {
		if !slices.ContainsFunc(b.Terms, func(t api.Term) bool { return modelUnder(s, t) }) {
			return false
		}
	}
	return true
}

// modelCommon is what two right terms have in common by the chapter's words: none or one; and whether that is not too wide.
func modelCommon(s, t api.Term) ([]api.Term, bool) {
	switch {
	case s.Kind == 5:
		return []api.Term{t}, true
	case t.Kind == 5:
		return []api.Term{s}, true
	case s.Kind != 4 || t.Kind != 4:
		if m, ok := scalar.Meet(s, t); ok {
			return []api.Term{m}, true
		}
		return nil, true
	}
	own, other := named(s), named(t)
	keys := map[string]bool{}
	for k := range own {
		keys[k] = true
	}
	for k := range other {
		keys[k] = true
	}
	if !s.Open && len(keys) > len(own) || !t.Open && len(keys) > len(other) {
		return nil, true
	}
	m := api.Term{Kind: 4, Open: s.Open && t.Open}
	for _, k := range sorted(keys) {
		v, ok := own[k]
		w, too := other[k]
		if !ok {
			v = w
		} else if too {
			wide := false
			if v, wide = modelMeet(v, w); wide || len(v.Terms) == 0 {
				return nil, !wide
			}
		}
		m.Fields = append(m.Fields, api.Field{Name: k, V: v})
	}
	return []api.Term{m}, len(m.Fields) <= 32
}

// sorted are the keys of a map, as they rise.
func sorted(m map[string]bool) []string {
	var l []string
	for k := range m {
		l = append(l, k)
	}
	slices.Sort(l)
	return l
}

// modelLess is a value of right terms, less those that are below another one, by the chapter's words; and whether that is too wide.
func modelLess(l []api.Term) (api.Value, bool) {
	var v api.Value
	for i, s := range l {
		stays := true
		for j, t := range l {
			stays = stays && (!modelUnder(s, t) || rank.Terms(s, t) == 0 && i <= j)
		}
		if stays {
			v.Terms = append(v.Terms, s)
		}
	}
	slices.SortFunc(v.Terms, rank.Terms)
	return rank.Copy(v), rank.Weight(v) > 512
}

// modelMeet is the meet of two right values by the chapter's words, or that it is too wide.
func modelMeet(a, b api.Value) (api.Value, bool) {
	if len(a.Terms)*len(b.Terms) > 512 {
		return api.Value{}, true
	}
	wide := false
	var l []api.Term
	for _, s := range a.Terms {
		for _, t := range b.Terms {
			m, ok := modelCommon(s, t)
			l, wide = append(l, m...), wide || !ok
		}
	}
	v, more := modelLess(l)
	return v, wide || more
}

// modelJoin is the join of two right values by the chapter's words, or that it is too wide.
func modelJoin(a, b api.Value) (api.Value, bool) {
	return modelLess(slices.Concat(a.Terms, b.Terms))
}

// dice are numbers that have no order to be seen.
type dice uint32

// roll is a number from 0 up to below n.
func (d *dice) roll(n int) int {
	*d = *d*1664525 + 1013904223
	return int(uint32(*d)>>8) % n
}

// rolled is a right value out of so few parts that many are below one another, or have much in common.
func rolled(d *dice, depth int) api.Value {
	var l []api.Term
	for range d.roll(4) {
		l = append(l, rolledTerm(d, depth))
	}
	v, _ := modelLess(l)
	return v
}

// rolledTerm is such a term.
func rolledTerm(d *dice, depth int) api.Term {
	if depth > 0 && d.roll(2) == 0 {
		t := api.Term{Kind: 4, Open: d.roll(2) == 0}
		for _, k := range []string{"a", "b", "c"} {
			if v := rolled(d, depth-1); len(v.Terms) > 0 && d.roll(3) > 0 {
				t.Fields = append(t.Fields, api.Field{Name: k, V: v})
			}
		}
		return t
	}
	lo := d.roll(5)
	l := []api.Term{no, yes, both, maybe(both), number(lo, lo), number(lo, lo+d.roll(4)), maybe(number(lo, lo+1+d.roll(4))), numbers, maybe(numbers), text(""), text("a"), texts, maybe(texts), all}
	return l[d.roll(len(l))]
}

// some are right values, all unlike, the simple ones first.
func some() []api.Value {
	l := []api.Value{
		value(), value(all), value(no), value(yes), value(both), value(maybe(both)), value(no, yes),
		value(number(3, 3)), value(number(1, 9)), value(maybe(number(1, 9))), value(number(5, 20)), value(number(1, 2), number(4, 9)), value(numbers), value(maybe(numbers)),
		value(text("")), value(text("x")), value(text("x"), text("y")), value(texts), value(maybe(texts)), value(both, numbers, texts), value(maybe(both), maybe(numbers), maybe(texts)),
		value(closed()), value(open()), value(numbers, open()), value(closed(), closed(field("a", number(1, 1)))),
		value(closed(field("a", number(1, 9)))), value(open(field("a", number(5, 20)))), value(open(field("a", all))), value(closed(field("a", all))), value(open(field("b", text("x")))),
		value(closed(field("a", number(1, 1)), field("b", texts))), value(open(field("a", open(field("b", closed()))))), value(closed(field("a", closed(field("b", closed(field("c", yes))))))),
		value(closed(field("a", number(1, 1))), closed(field("a", number(2, 2)))), value(closed(field("a", number(1, 1), number(2, 2)))),
	}
	for i := range 60 {
		v := rolled(new(dice(i)), 2)
		if !slices.ContainsFunc(l, func(w api.Value) bool { return rank.Same(v, w) }) {
			l = append(l, v)
		}
	}
	return l
}

// broken are values that are not right: each one but for one thing.
func broken() []api.Value {
	inner := fields(0, 1, yes)
	l := []api.Value{
		// Kinds that are none, and what a kind does not have.
		value(api.Term{}), value(api.Term{Kind: 6}), value(api.Term{Kind: -1}), value(api.Term{Kind: 5 + 256}),
		value(api.Term{Kind: 5, Lo: 1}), value(api.Term{Kind: 5, Hi: 1}), value(api.Term{Kind: 5, Text: "a"}), value(api.Term{Kind: 5, Any: true}), value(maybe(all)), value(api.Term{Kind: 5, Open: true}), value(api.Term{Kind: 5, Fields: inner}),
		value(api.Term{Kind: 4, Lo: -1}), value(api.Term{Kind: 4, Hi: 1}), value(api.Term{Kind: 4, Text: "a"}), value(api.Term{Kind: 4, Any: true}), value(maybe(closed())), value(maybe(open(inner...))),
		value(api.Term{Kind: 1, Hi: 2}), value(maybe(yes)), value(number(2, 1)), value(number(0, top+1)), value(maybe(number(4, 4))), value(text(strings.Repeat("x", 257))), value(api.Term{Kind: 3, Text: "a", Any: true}), value(maybe(text("a"))),
		value(api.Term{Kind: 1, Open: true}), value(api.Term{Kind: 2, Fields: inner}), value(api.Term{Kind: 3, Open: true}),
		// Fields: too many, names that are none or do not rise, values that are none or not right.
		value(closed(fields(0, 33, yes)...)), value(open(fields(0, 33, yes)...)),
		value(closed(field("", yes))), value(closed(field("A", yes))), value(open(field("any", yes))), value(closed(field("a.b", yes))), value(closed(field("a2345678901234567", yes))),
		value(closed(field("b", yes), field("a", yes))), value(open(field("b", yes), field("a", yes))), value(closed(field("a", yes), field("a", yes))), value(closed(field("a", yes), field("a", no))), value(closed(field("a", yes), field("c", yes), field("b", yes))),
		value(closed(field("a"))), value(open(field("a", yes), field("b"))), value(closed(field("a", closed(field("b"))))),
		value(closed(field("a", api.Term{}))), value(closed(field("a", yes, no))), value(closed(field("a", number(1, 9), number(3, 3)))), value(open(field("a", yes), field("b", maybe(yes)))),
		// Terms that do not rise, the same one twice, one that is below another one.
		value(yes, no), value(number(2, 2), number(1, 1)), value(text("a"), number(1, 1)), value(open(field("a", yes)), closed(field("b", yes))),
		value(no, no), value(number(1, 1), number(2, 2), number(2, 2)), value(texts, texts), value(closed(), closed()), value(all, all),
		value(number(1, 9), number(3, 3)), value(no, both), value(both, yes), value(both, maybe(both)), value(numbers, maybe(numbers)), value(number(1, 1), maybe(number(1, 2))), value(text(""), texts), value(texts, text("a")), value(maybe(texts), text("a")),
		value(number(0, 20), number(1, 1), number(30, 30)), value(number(0, 0), number(1, 1), number(2, 2), texts, all), value(no, all), value(closed(), all), value(open(), all),
		value(closed(), open()), value(closed(field("a", yes)), open()), value(open(), open(field("a", yes))), value(closed(field("a", yes)), closed(field("a", both))), value(closed(field("a", yes)), closed(field("b", yes)), open(field("a", both))),
		value(closed(field("a", closed(field("b", yes)))), open(field("a", open()))),
		// Too heavy and too deep.
		value(row(0, 513)...), value(closed(field("a", row(0, 512)...))), value(closed(field("a", row(0, 255)...), field("b", row(0, 257)...))), value(closed(field("a", row(0, 256)...)), closed(field("b", row(0, 255)...))),
		value(closed(fields(0, 32, append(row(0, 15), texts)...)...)), nested(2, row(0, 511)...), nested(16, yes), nested(16, closed()), nested(17), value(closed(api.Field{Name: "a", V: nested(15, yes)}, field("b", yes))), nested(1000, yes),
		value(slices.Concat(row(0, 1), nested(16, yes).Terms)...),
	}
	for _, t := range []api.Term{no, both, number(1, 9), text("a"), texts, closed(inner...), open(), all} {
		odd := t
		odd.Kind = 9
		l = append(l, value(odd))
	}
	return l
}

// edges are values that are just right.
func edges() []api.Value {
	return []api.Value{
		value(row(0, 512)...), value(words(0, 512)...), value(closed(field("a", row(0, 511)...))), value(closed(field("a", row(0, 255)...), field("b", row(0, 256)...))), value(closed(field("a", row(0, 255)...)), closed(field("b", row(0, 255)...))),
		value(closed(fields(0, 32, yes)...)), value(open(fields(0, 32, row(0, 15)...)...), open(fields(0, 30, texts)...)), nested(2, row(0, 510)...), nested(15, yes), nested(15, closed()), nested(15, open()), nested(15, all), value(closed(api.Field{Name: "a", V: nested(14, yes)}, field("b", yes))),
		value(closed(field("a", text(strings.Repeat("x", 256)))), closed(field("a234567890123456", numbers))),
	}
}
