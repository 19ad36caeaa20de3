package rank_test

import (
	"cmp"
	"math"
	"slices"
	"strings"
	"testing"

	"treillage/api"
	"treillage/rank"
)

// value is a value of some terms.
func value(l ...api.Term) api.Value { return api.Value{Terms: l} }

// field is a field of which the value has some terms.
func field(name string, l ...api.Term) api.Field { return api.Field{Name: name, V: value(l...)} }

// record is a struct of some fields.
func record(l ...api.Field) api.Term { return api.Term{Kind: 4, Fields: l} }

// number are the numbers from lo to hi.
func number(lo, hi int) api.Term { return api.Term{Kind: 2, Lo: lo, Hi: hi} }

// text is just a text.
func text(s string) api.Term { return api.Term{Kind: 3, Text: s} }

// with is a term with some fields, whatever its kind.
func with(t api.Term, l ...api.Field) api.Term {
	t.Fields = l
	return t
}

// nested is a value within n structs.
func nested(v api.Value, n int) api.Value {
	for i := range n {
		v = value(record(field([]string{"a", "b"}[i%2], v.Terms...)))
	}
	return v
}

// part is a number or a text of a value's row.
type part struct {
	n int
	s string
}

// row lays a value into one row of parts: ahead of each item stands 1, behind the last one 0, so that rows that are held against each other part by part tell the order of the chapter's words.
func row(v api.Value) []part {
	var l []part
	for _, t := range v.Terms {
		l = append(l, part{n: 1})
		l = append(l, rowOf(t)...)
	}
	return append(l, part{})
}

// rowOf lays a term into a row.
func rowOf(t api.Term) []part {
	l := []part{{n: t.Kind}, {n: t.Lo}, {n: t.Hi}, {s: t.Text}}
	for _, b := range []bool{t.Any, t.Maybe, t.Open} {
		if b {
			l = append(l, part{n: 1})
		} else {
			l = append(l, part{})
		}
	}
	for _, f := range t.Fields {
		l = append(l, part{n: 1}, part{s: f.Name})
		l = append(l, row(f.V)...)
	}
	return append(l, part{})
}

// asked is what is asked of two rows.
func asked(a, b []part) int {
	return slices.CompareFunc(a, b, func(x, y part) int { return cmp.Or(cmp.Compare(x.n, y.n), strings.Compare(x.s, y.s)) })
}

// dice are numbers that have no order to be seen.
type dice uint32

// roll is a number from 0 up to below n.
func (d *dice) roll(n int) int {
	*d = *d*1664525 + 1013904223
	return int(uint32(*d)>>8) % n
}

// rolled is a value out of so few parts that many are the same up to some place, right or not.
func rolled(d *dice, depth int) (v api.Value) {
	for range d.roll(3) {
		v.Terms = append(v.Terms, rolledTerm(d, depth))
	}
	return v
}

// rolledTerm is such a term.
func rolledTerm(d *dice, depth int) api.Term {
	t := api.Term{Kind: 3 + d.roll(2), Any: d.roll(9) == 0, Maybe: d.roll(9) == 0, Open: d.roll(5) == 0}
	if d.roll(5) == 0 {
		t.Lo, t.Hi, t.Text = d.roll(3)-1, d.roll(3)-1, []string{"", "a", "ab"}[d.roll(3)]
	}
	if depth > 0 {
		for range d.roll(3) {
			t.Fields = append(t.Fields, api.Field{Name: []string{"a", "b"}[d.roll(2)], V: rolled(d, depth-1)})
		}
	}
	return t
}

// values are some values, the first ones simple, with some that are the same.
func values() []api.Value {
	l := append(rising(), value(), value(api.Term{Fields: []api.Field{}}), value(record()), api.Value{Terms: []api.Term{}})
	for i := range 300 {
		l = append(l, rolled(new(dice(i)), 3))
	}
	return l
}

// risingTerms are terms each of which comes ahead of those behind it.
func risingTerms() []api.Term {
	f := field
	return []api.Term{
		{Kind: math.MinInt, Lo: 9, Text: "z", Open: true},
		{Kind: -1, Hi: 1},
		{Kind: 0, Lo: math.MinInt},
		{},
		{Fields: []api.Field{f("")}},
		{Kind: 1}, // false
		{Kind: 1, Hi: 1},
		{Kind: 1, Hi: 1, Maybe: true},
		{Kind: 1, Lo: 1, Hi: 1}, // true
		{Kind: 2, Lo: math.MinInt, Hi: math.MaxInt},
		{Kind: 2, Lo: -api.MaxInt - 1, Hi: math.MaxInt},
		{Kind: 2, Lo: -api.MaxInt, Hi: api.MaxInt},
		{Kind: 2, Lo: -api.MaxInt, Hi: api.MaxInt, Maybe: true},
		{Kind: 2, Lo: -1, Hi: -1},
		{Kind: 2, Lo: -1, Hi: 0},
		{Kind: 2, Lo: 0, Hi: math.MinInt},
		{Kind: 2, Lo: 0, Hi: 0},
		{Kind: 2, Lo: 1, Hi: -5},
		{Kind: 2, Lo: 1, Hi: 2},
		{Kind: 2, Lo: 1, Hi: 2, Text: "a"},
		{Kind: 2, Lo: 1, Hi: 10},
		{Kind: 2, Lo: 2, Hi: 1},
		{Kind: 2, Lo: 10, Hi: 10},
		{Kind: 2, Lo: api.MaxInt, Hi: api.MaxInt},
		{Kind: 2, Lo: api.MaxInt + 1, Hi: 0},
		{Kind: 2, Lo: math.MaxInt, Hi: math.MinInt},
		{Kind: 3},
		{Kind: 3, Any: true},
		{Kind: 3, Any: true, Maybe: true},
		{Kind: 3, Text: "\x00"},
		{Kind: 3, Text: "\x00\x00"},
		{Kind: 3, Text: "10"},
		{Kind: 3, Text: "9"},
		{Kind: 3, Text: "Z"},
		{Kind: 3, Text: "a"},
		{Kind: 3, Text: "a", Any: true},
		{Kind: 3, Text: "aa"},
		{Kind: 3, Text: "ab"},
		{Kind: 3, Text: "b"},
		{Kind: 3, Text: "b\xff"},
		{Kind: 3, Text: strings.Repeat("c", 256)},
		{Kind: 3, Text: strings.Repeat("c", 257)},
		{Kind: 3, Text: strings.Repeat("c", 256) + "d"},
		{Kind: 3, Text: "é"},
		{Kind: 3, Text: "\U0001f600"},
		{Kind: 3, Text: "\xff"},
		{Kind: 3, Lo: 1},
		{Kind: 4},
		{Kind: 4, Fields: []api.Field{f("")}},
		{Kind: 4, Fields: []api.Field{f("a")}},
		{Kind: 4, Fields: []api.Field{f("a"), f("")}},
		{Kind: 4, Fields: []api.Field{f("a"), f("b"), f("c")}},
		{Kind: 4, Fields: []api.Field{f("a"), f("c")}},
		{Kind: 4, Fields: []api.Field{f("a", api.Term{})}},
		{Kind: 4, Fields: []api.Field{f("a", number(1, 1))}},
		{Kind: 4, Fields: []api.Field{f("a", number(1, 1)), f("b")}},
		{Kind: 4, Fields: []api.Field{f("a", number(1, 1)), f("b", text("z"))}},
		{Kind: 4, Fields: []api.Field{f("a", number(1, 1), text("a"))}},
		{Kind: 4, Fields: []api.Field{f("a", number(1, 2)), f("b")}},
		{Kind: 4, Fields: []api.Field{f("a", text("a")), f("a")}},
		{Kind: 4, Fields: []api.Field{f("a", record())}},
		{Kind: 4, Fields: []api.Field{f("a", record(f("b", record(f("c")))))}},
		{Kind: 4, Fields: []api.Field{f("a", record(f("b", record(f("c", number(7, 7))))))}},
		{Kind: 4, Fields: []api.Field{f("a", record(f("b", record(f("c", number(7, 8)))))), f("b")}},
		{Kind: 4, Fields: []api.Field{f("a", record(f("b", record(f("d")))))}},
		{Kind: 4, Fields: []api.Field{f("aa")}},
		{Kind: 4, Fields: []api.Field{f("b"), f("a", number(9, 9))}},
		{Kind: 4, Fields: []api.Field{f("c"), f("b")}},
		{Kind: 4, Open: true},
		{Kind: 4, Open: true, Fields: []api.Field{f("a")}},
		{Kind: 4, Maybe: true},
		{Kind: 4, Any: true, Fields: []api.Field{f("a")}},
		{Kind: 5},
		{Kind: 6},
		{Kind: 257},
		{Kind: math.MaxInt},
	}
}

// rising are values each of which comes ahead of those behind it.
func rising() []api.Value {
	least := api.Term{Kind: math.MinInt, Lo: math.MinInt, Hi: math.MinInt}
	return []api.Value{
		value(),
		value(least),
		value(least, least),
		value(least, api.Term{Kind: math.MaxInt}),
		value(api.Term{}),
		value(api.Term{Kind: 1}),
		value(api.Term{Kind: 1}, api.Term{Kind: 1, Lo: 1, Hi: 1}),
		value(api.Term{Kind: 1}, number(1, 2), number(0, 0)),
		value(api.Term{Kind: 1}, number(1, 3)),
		value(api.Term{Kind: 1, Lo: 1, Hi: 1}),
		value(number(1, 1)),
		value(number(1, 1), number(1, 1)),
		value(number(1, 1), text("")),
		value(number(1, 2)),
		value(number(2, 2), api.Term{}),
		value(text("b"), text("a")),
		value(record()),
		value(record(), record()),
		value(record(field("a"))),
		value(record(field("a")), api.Term{}),
		value(record(field("a", number(1, 1)))),
		value(record(field("a", number(1, 1), number(2, 2)))),
		value(record(field("a", number(2, 2)))),
		value(api.Term{Kind: 5}),
		value(api.Term{Kind: 5}, api.Term{Kind: 5}),
	}
}

// 8.1: terms in a row written out; each comes ahead of all behind it, and turned round behind.
func TestTermsByHand(t *testing.T) {
	for i, a := range risingTerms() {
		for j, b := range risingTerms() {
			if c := rank.Terms(a, b); c != cmp.Compare(i, j) {
				t.Errorf("Terms(%.80v, %.80v): %d, not %d", a, b, c, cmp.Compare(i, j))
			}
		}
	}
}

// turns are what a term's parts can be made greater by, in the order in which they tell.
func turns() []func(*api.Term) {
	return []func(*api.Term){
		func(t *api.Term) { t.Kind++ },
		func(t *api.Term) { t.Lo++ },
		func(t *api.Term) { t.Hi++ },
		func(t *api.Term) { t.Text += "\x00" },
		func(t *api.Term) { t.Any = true },
		func(t *api.Term) { t.Maybe = true },
		func(t *api.Term) { t.Open = true },
		func(t *api.Term) { t.Fields = append(slices.Clone(t.Fields), field("")) },
	}
}

// 8.1: of terms that differ in one part alone that one tells; of those that differ in two the first one; however deep they stand.
func TestOneAheadOfAnother(t *testing.T) {
	for _, base := range []api.Term{{}, {Kind: 2, Lo: -7, Hi: 4}, {Kind: 3, Text: "a"}, record(field("a", number(1, 1))), {Kind: -9, Lo: 3, Hi: 2, Text: "\xff", Fields: []api.Field{field("b"), field("a")}}} {
		for i, turn := range turns() {
			for _, behind := range append(turns()[i+1:], func(*api.Term) {}) {
				a, b := base, base
				behind(&a)
				turn(&b)
				if rank.Terms(a, b) != -1 || rank.Terms(b, a) != 1 || rank.Terms(a, a) != 0 || rank.Terms(b, b) != 0 {
					t.Errorf("Terms(%v, %v): %d and %d", a, b, rank.Terms(a, b), rank.Terms(b, a))
				}
				for _, n := range []int{0, 1, 2, 15, 40} {
					v, w := nested(value(number(1, 1), a), n), nested(value(number(1, 1), b), n)
					if rank.Compare(v, w) != -1 || rank.Compare(w, v) != 1 || rank.Same(v, w) || rank.Same(w, v) || rank.Compare(v, v) != 0 || !rank.Same(w, w) {
						t.Errorf("Compare(%v, %v): %d and %d", v, w, rank.Compare(v, w), rank.Compare(w, v))
					}
				}
			}
		}
	}
}

// 8.1: field by field: the name ahead of the value, the value ahead of what stands behind it, and how many there are last.
func TestFields(t *testing.T) {
	for _, c := range [][2][]api.Field{
		{{field("a", text("z"))}, {field("b", number(1, 1))}},
		{{field("a", number(1, 1)), field("z")}, {field("a", number(1, 2)), field("b")}},
		{{field("a"), field("b"), field("c")}, {field("b")}},
		{{field("a"), field("b")}, {field("a"), field("b"), field("c")}},
		{{field("a"), field("b", text("x")), field("c")}, {field("a"), field("c")}},
		{nil, {field("")}},
		{{field("")}, {field(""), field("")}},
		{{field("Z")}, {field("a")}},
		{{field("b")}, {field("ba")}},
		{{field("a", record(field("z")))}, {field("a", record(field("z", number(0, 0))))}},
	} {
		a, b := record(c[0]...), record(c[1]...)
		if rank.Terms(a, b) != -1 || rank.Terms(b, a) != 1 || rank.Terms(a, a) != 0 || rank.Terms(b, b) != 0 {
			t.Errorf("Terms(%v, %v): %d and %d", a, b, rank.Terms(a, b), rank.Terms(b, a))
		}
	}
}

// 8.1: values in a row written out: term by term, not by how many there are.
func TestCompareByHand(t *testing.T) {
	for i, a := range rising() {
		for j, b := range rising() {
			if c := rank.Compare(a, b); c != cmp.Compare(i, j) {
				t.Errorf("Compare(%v, %v): %d, not %d", a, b, c, cmp.Compare(i, j))
			}
			if rank.Same(a, b) != (i == j) {
				t.Errorf("Same(%v, %v): %v", a, b, i != j)
			}
		}
	}
}

// 8.1: terms in a row are compared like values of one term.
func TestCompareOfOneTerm(t *testing.T) {
	for i, a := range risingTerms() {
		for j, b := range risingTerms() {
			if rank.Compare(value(a), value(b)) != cmp.Compare(i, j) || rank.Compare(value(number(0, 0), a), value(number(0, 0), b)) != cmp.Compare(i, j) {
				t.Errorf("Compare(%.80v, %.80v): %d, not %d", a, b, rank.Compare(value(a), value(b)), cmp.Compare(i, j))
			}
		}
	}
}

// 8.1: a nil list and an empty one are the same, and what lies behind a list's length is not looked at.
func TestEmptyLists(t *testing.T) {
	behind, fields := []api.Term{{Kind: 1}, {Kind: 2}}, []api.Field{field("a"), field("b")}
	for _, empty := range [][]api.Term{nil, {}, behind[:0]} {
		if rank.Compare(value(), api.Value{Terms: empty}) != 0 || !rank.Same(api.Value{Terms: empty}, value()) || rank.Weight(api.Value{Terms: empty}) != 0 || rank.Depth(api.Value{Terms: empty}) != 1 {
			t.Errorf("an empty list of terms is not as good as none")
		}
	}
	for _, empty := range [][]api.Field{nil, {}, fields[:0]} {
		a := api.Term{Kind: 4, Fields: empty}
		if rank.Terms(a, record()) != 0 || rank.Terms(record(), a) != 0 || !rank.Same(value(a), value(record())) || rank.Weight(value(a)) != 1 || rank.Depth(value(a)) != 1 {
			t.Errorf("an empty list of fields is not as good as none")
		}
	}
	if !rank.Same(api.Value{Terms: behind[:1]}, value(api.Term{Kind: 1})) || rank.Terms(api.Term{Fields: fields[:1]}, api.Term{Fields: []api.Field{field("a")}}) != 0 {
		t.Errorf("what lies behind a list is looked at")
	}
}

// 8.1, 8.2: values of all sorts against the order of the chapter's words, in both directions.
func TestCompare(t *testing.T) {
	same, unlike := 0, 0
	all := values()
	var rows [][]part
	for _, v := range all {
		rows = append(rows, row(v))
	}
	for i, a := range all {
		for j, b := range all {
			want := asked(rows[i], rows[j])
			if c := rank.Compare(a, b); c != want || rank.Compare(b, a) != -c || rank.Same(a, b) != (c == 0) {
				t.Fatalf("Compare(%v, %v): %d, not %d", a, b, c, want)
			}
			if want == 0 && i != j {
				same++
			} else if i != j {
				unlike++
			}
		}
	}
	if same < 100 || unlike < 100 {
		t.Errorf("%d pairs are the same, %d unlike", same, unlike)
	}
}

// 8.1, 8.2: terms of all sorts likewise.
func TestTerms(t *testing.T) {
	all := risingTerms()
	for _, v := range values() {
		all = append(all, v.Terms...)
	}
	var rows [][]part
	for _, x := range all {
		rows = append(rows, rowOf(x))
	}
	for i, a := range all {
		for j, b := range all {
			want := asked(rows[i], rows[j])
			if c := rank.Terms(a, b); c != want || rank.Terms(b, a) != -c {
				t.Fatalf("Terms(%v, %v): %d, not %d", a, b, c, want)
			}
		}
	}
}

// 8.2: the order goes on from one to the next: of values in order each one comes ahead of, or is the same as, all behind it.
func TestInOrder(t *testing.T) {
	all := values()
	slices.SortFunc(all, rank.Compare)
	at := 0 // a number for each value; the same ones have the same
	places := make([]int, len(all))
	for i := range all {
		if i > 0 && !rank.Same(all[i-1], all[i]) {
			at++
		}
		places[i] = at
	}
	for i, a := range all {
		for j, b := range all {
			if rank.Compare(a, b) != cmp.Compare(places[i], places[j]) {
				t.Fatalf("Compare(%v, %v): %d, at %d and %d", a, b, rank.Compare(a, b), places[i], places[j])
			}
		}
	}
}

// 8.1: weight and depth written out.
func TestWeightAndDepthByHand(t *testing.T) {
	one := number(1, 1)
	for _, c := range []struct {
		v             api.Value
		weight, depth int
	}{
		{value(), 0, 1},
		{value(one), 1, 1},
		{value(one, one, text("a")), 3, 1},
		{value(api.Term{Kind: 5}), 1, 1},
		{value(api.Term{Kind: -7, Open: true}), 1, 1},
		{value(record()), 1, 1},
		{value(record(field("a"))), 1, 2},
		{value(record(field("a", one))), 2, 2},
		{value(record(field("a", one, one), field("b", one))), 4, 2},
		{value(record(field("a", one)), record(field("a", text("x")))), 4, 2},
		{value(one, record(field("a", record(field("b", one, one))))), 5, 3},
		{value(record(field("a", record(field("b", record(field("c")))))), one), 4, 4},
		{value(record(field("a", record(field("b", one))), field("b", one))), 4, 3},
		{value(record(field("a", one), field("b", record(field("b", one))), field("c", one))), 5, 3},
		{value(record(field("a", one), field("b", record(field("b"))))), 3, 3},
		{value(record(field("a", record(field("a", one)))), record(field("a", one)), one), 6, 3},
		{value(record(field("a", one)), one, record(field("a", one, record(field("a"))))), 6, 3},
		{value(with(one, field("a", one), field("a", one))), 3, 2}, // fields count, whatever the kind
		{value(with(api.Term{}, field("", with(text("x"), field(""))))), 2, 3},
	} {
		if w, d := rank.Weight(c.v), rank.Depth(c.v); w != c.weight || d != c.depth {
			t.Errorf("%v: weight %d, depth %d; not %d, %d", c.v, w, d, c.weight, c.depth)
		}
	}
	for n := range 20 {
		if v := nested(value(one, one), n); rank.Weight(v) != n+2 || rank.Depth(v) != n+1 {
			t.Errorf("%d within one another: weight %d, depth %d", n, rank.Weight(v), rank.Depth(v))
		}
	}
}

// weigh goes through a value, layer by layer.
func weigh(v api.Value) (weight, depth int) {
	for layer := []api.Value{v}; len(layer) > 0; depth++ {
		var next []api.Value
		for _, w := range layer {
			weight += len(w.Terms)
			for _, t := range w.Terms {
				for _, f := range t.Fields {
					next = append(next, f.V)
				}
			}
		}
		layer = next
	}
	return weight, depth
}

// 8.1: weight and depth of values of all sorts.
func TestWeightAndDepth(t *testing.T) {
	for _, v := range values() {
		w, d := weigh(v)
		if rank.Weight(v) != w || rank.Depth(v) != d {
			t.Errorf("%v: weight %d, depth %d; not %d, %d", v, rank.Weight(v), rank.Depth(v), w, d)
		}
	}
}

// spoil writes over all that a value's lists reach, up to their capacities.
func spoil(v api.Value) {
	spoilt := api.Term{Kind: 77, Text: "spoilt"}
	_ = append(v.Terms, spoilt)
	terms := v.Terms[:cap(v.Terms)]
	for i := range terms {
		_ = append(terms[i].Fields, api.Field{Name: "spoilt"})
		fields := terms[i].Fields[:cap(terms[i].Fields)]
		for j := range fields {
			spoil(fields[j].V)
			fields[j] = api.Field{Name: "spoilt"}
		}
		terms[i] = spoilt
	}
}

// copied holds a value that made makes each time anew against its copy.
func copied(t *testing.T, made func() api.Value) {
	t.Helper()
	given, want := made(), row(made())
	c := rank.Copy(given)
	if !rank.Same(c, given) || !slices.Equal(row(c), want) || !slices.Equal(row(given), want) {
		t.Fatalf("Copy(%v): %v", made(), c)
	}
	spoil(c)
	if !slices.Equal(row(given), want) {
		t.Errorf("what was copied is changed: %v, not %v", given, made())
	}
	first, second := rank.Copy(given), rank.Copy(given)
	spoil(given)
	if !slices.Equal(row(first), want) {
		t.Errorf("the copy is changed: %v, not %v", first, made())
	}
	spoil(first)
	if !slices.Equal(row(second), want) {
		t.Errorf("two copies share memory: %v, not %v", second, made())
	}
}

// 8.1: a copy has all that was there, right or not, and shares no memory.
func TestCopy(t *testing.T) {
	for i := range rising() {
		copied(t, func() api.Value { return rising()[i] })
	}
	for i := range 300 {
		copied(t, func() api.Value { return rolled(new(dice(i)), 4) })
	}
	for i := range risingTerms() {
		copied(t, func() api.Value { return value(risingTerms()[i]) })
		copied(t, func() api.Value { return value(record(field("a"), field("b", number(1, 1), risingTerms()[i]))) })
	}
	full := api.Term{Kind: -3, Lo: math.MinInt, Hi: math.MaxInt, Text: "\xff\x00", Any: true, Maybe: true, Open: true}
	copied(t, func() api.Value {
		return value(full, with(full, field("b", full), field("a", with(full, field("", full, full)))))
	})
}

// 8.1, R5: what lies behind the lists of what is copied is neither read nor handed out.
func TestCopyBehindLists(t *testing.T) {
	for n := range 4 {
		terms := []api.Term{number(1, 1), record(), text("a"), text("b")}
		fields := []api.Field{field("a", number(1, 1)), field("b"), field("c"), field("d")}
		inner := []api.Term{text("x"), text("y"), text("z"), {}}
		fields[0].V.Terms = inner[:n]
		terms[1].Fields = fields[:n]
		c := rank.Copy(api.Value{Terms: terms[:n]})
		if !slices.Equal(row(c), row(api.Value{Terms: terms[:n]})) {
			t.Errorf("the copy of %d terms: %v", n, c)
		}
		spoil(c)
		terms[1].Fields = nil
		if !slices.Equal(row(value(terms...)), row(value(number(1, 1), record(), text("a"), text("b")))) {
			t.Errorf("terms are changed: %v", terms)
		}
		if !slices.Equal(row(value(inner...)), row(value(text("x"), text("y"), text("z"), api.Term{}))) {
			t.Errorf("terms within are changed: %v", inner)
		}
		for i, f := range fields {
			if f.Name != string("abcd"[i]) {
				t.Errorf("fields are changed: %v", fields)
			}
		}
	}
}

// 8.1, R5: no two lists of a copy share memory, not even where those of what was copied do.
func TestCopyOfShared(t *testing.T) {
	shared := []api.Term{number(1, 1), text("a"), record(field("x", number(3, 3)))}
	given := func() api.Value {
		return value(record(api.Field{Name: "a", V: api.Value{Terms: shared}}, api.Field{Name: "b", V: api.Value{Terms: shared}}), record(field("c", shared...)))
	}
	want := row(given().Terms[0].Fields[1].V)
	c := rank.Copy(given())
	spoil(c.Terms[0].Fields[0].V)
	if !slices.Equal(row(c.Terms[0].Fields[1].V), want) || !slices.Equal(row(c.Terms[1].Fields[0].V), want) {
		t.Errorf("two lists of a copy share memory: %v", c)
	}
	c = rank.Copy(given())
	spoil(c.Terms[0].Fields[1].V)
	if !slices.Equal(row(c.Terms[0].Fields[0].V), want) || !slices.Equal(row(c.Terms[1].Fields[0].V), want) {
		t.Errorf("two lists of a copy share memory: %v", c)
	}
	spoil(c)
	if !slices.Equal(row(api.Value{Terms: shared}), want) {
		t.Errorf("what was copied is changed: %v", shared)
	}
}

// 8.1: what is compared, weighed and copied is not changed.
func TestNothingIsChanged(t *testing.T) {
	all := values()
	for i, v := range all {
		w := all[(i+1)%len(all)]
		was, other := row(v), row(w)
		rank.Compare(v, w)
		rank.Same(w, v)
		rank.Weight(v)
		rank.Depth(v)
		rank.Copy(v)
		if !slices.Equal(row(v), was) || !slices.Equal(row(w), other) {
			t.Fatalf("%v or %v is changed", v, w)
		}
	}
}

// R1: values may be deep.
func TestDeep(t *testing.T) {
	const n = 1 << 14
	a, b := nested(value(number(1, 1)), n), nested(value(number(1, 2)), n)
	if rank.Compare(a, b) != -1 || rank.Compare(b, a) != 1 || !rank.Same(a, a) || rank.Same(a, b) {
		t.Errorf("Compare of deep values: %d and %d", rank.Compare(a, b), rank.Compare(b, a))
	}
	if rank.Weight(a) != n+1 || rank.Depth(a) != n+1 {
		t.Errorf("weight %d, depth %d", rank.Weight(a), rank.Depth(a))
	}
	if c := rank.Copy(b); !rank.Same(c, b) || rank.Depth(c) != n+1 {
		t.Errorf("the copy of a deep value is not the same")
	}
}

// R1: values may have many terms, and terms many fields.
func TestMany(t *testing.T) {
	var v api.Value
	for i := range 1 << 12 {
		v.Terms = append(v.Terms, with(number(i, i), field("a", number(i, i))))
	}
	v.Terms = append(v.Terms, record(make([]api.Field, 1<<12)...))
	w := rank.Copy(v)
	if !rank.Same(v, w) || rank.Weight(w) != 1<<13+1 || rank.Depth(w) != 2 {
		t.Errorf("the copy of a great value: weight %d, depth %d", rank.Weight(w), rank.Depth(w))
	}
	w.Terms[1<<12].Fields[1<<12-1].Name = "a"
	if rank.Compare(v, w) != -1 || rank.Compare(w, v) != 1 {
		t.Errorf("the last field does not tell: %d", rank.Compare(v, w))
	}
}
