package lat_test

import (
	"fmt"
	"math"
	"slices"
	"strings"
	"testing"

	"treillage/api"
	"treillage/lat"
	"treillage/rank"
)

// show is the begin of a value, which may be great.
func show(v api.Value) string {
	s := fmt.Sprint(v)
	return s[:min(len(s), 200)]
}

// is tells whether a value and its error are those that are asked, and fails if they are not; beside an error none is.
func is(t *testing.T, what string, got api.Value, e api.Errno, want api.Value, wantE api.Errno) bool {
	t.Helper()
	if e != wantE || !rank.Same(got, want) {
		t.Errorf("%s: %s %d, not %s %d", what, show(got), e, show(want), wantE)
		return false
	}
	return true
}

// term is the one term of a value.
func term(v api.Value) api.Term { return v.Terms[0] }

// 9.1: values that are right, those at the edges among them, and values that are not, each but for one thing.
func TestRightByHand(t *testing.T) {
	for i, v := range slices.Concat(some(), edges()) {
		if !lat.Right(v) {
			t.Errorf("Right, %d: false of %s", i, show(v))
		}
	}
	for i, v := range broken() {
		if lat.Right(v) {
			t.Errorf("Right, %d of those that are not: true of %s", i, show(v))
		}
	}
	if !lat.Right(api.Value{Terms: []api.Term{}}) || !lat.Right(value(api.Term{Kind: 4, Fields: []api.Field{}})) {
		t.Errorf("Right: false of a list without elements")
	}
}

// 9.1: what is not right stays so within a struct, however deep, and beside others.
func TestRightWithin(t *testing.T) {
	for i, v := range broken() {
		for n := 1; n < 15; n += 6 {
			if lat.Right(nested(n, v.Terms...)) {
				t.Errorf("Right, %d within %d: true of %s", i, n, show(v))
			}
		}
		if lat.Right(value(closed(field("a", yes), api.Field{Name: "b", V: v}, field("c", yes)))) {
			t.Errorf("Right, %d beside others: true of %s", i, show(v))
		}
	}
	for n := range 20 {
		if got := lat.Right(nested(n, yes)); got != (n < 16) {
			t.Errorf("Right of a depth of %d: %v", n+1, got)
		}
		heavy := nested(n, row(0, 505)...)
		if got := lat.Right(heavy); got != (n+505 <= 512) {
			t.Errorf("Right of a weight of %d: %v", n+505, got)
		}
	}
}

// spoils are ways in which a value may be turned into another one, right or not.
func spoils() []func(d *dice, v *api.Value) {
	pick := func(d *dice, v *api.Value) *api.Term {
		if len(v.Terms) == 0 {
			v.Terms = []api.Term{{Kind: d.roll(7)}}
		}
		return &v.Terms[d.roll(len(v.Terms))]
	}
	return []func(d *dice, v *api.Value){
		func(d *dice, v *api.Value) { pick(d, v).Kind = d.roll(7) },
		func(d *dice, v *api.Value) { pick(d, v).Lo += d.roll(5) - 2 },
		func(d *dice, v *api.Value) { pick(d, v).Hi += d.roll(5) - 2 },
		func(d *dice, v *api.Value) { pick(d, v).Text += "a" },
		func(d *dice, v *api.Value) { p := pick(d, v); p.Any = !p.Any },
		func(d *dice, v *api.Value) { p := pick(d, v); p.Maybe = !p.Maybe },
		func(d *dice, v *api.Value) { p := pick(d, v); p.Open = !p.Open },
		func(d *dice, v *api.Value) { p := pick(d, v); slices.Reverse(p.Fields) },
		func(d *dice, v *api.Value) { v.Terms = append(v.Terms, rolledTerm(d, 2)) },
		func(d *dice, v *api.Value) { slices.Reverse(v.Terms) },
		func(d *dice, v *api.Value) {
			p := pick(d, v)
			p.Fields = append(p.Fields, api.Field{Name: []string{"", "a", "d", "z"}[d.roll(4)], V: rolled(d, 1)})
		},
		func(d *dice, v *api.Value) {
			if p := pick(d, v); len(p.Fields) > 0 {
				p.Fields[0].V = rolled(d, 1)
			}
		},
	}
}

// 9.1: rolled values, and what they are turned into, held against the chapter's words.
func TestRightRolled(t *testing.T) {
	wrong := 0
	for i := range 4000 {
		d := new(dice(i))
		v := rank.Copy(rolled(d, 2))
		if !lat.Right(v) {
			t.Fatalf("Right: false of %v", v)
		}
		l := spoils()
		l[i%len(l)](d, &v)
		if got := lat.Right(v); got != modelRight(v) {
			t.Fatalf("Right: %v of %v", got, v)
		} else if !got {
			wrong++
		}
	}
	if wrong < 1000 {
		t.Errorf("only %d are not right", wrong)
	}
}

// 9.1: none and any, each time anew.
func TestNoneAny(t *testing.T) {
	if v := lat.None(); len(v.Terms) != 0 {
		t.Errorf("None: %v", v)
	}
	v := lat.Any()
	is(t, "Any", v, api.OK, value(all), api.OK)
	v.Terms[0] = no
	is(t, "Any, once more", lat.Any(), api.OK, value(all), api.OK)
}

// 9.1: Of, written out: what is left of terms, in order.
func TestOfByHand(t *testing.T) {
	one, two := closed(field("a", yes)), open(field("a", both))
	for _, c := range []struct{ l, want []api.Term }{
		{nil, nil},
		{[]api.Term{all}, []api.Term{all}},
		{[]api.Term{yes}, []api.Term{yes}},
		{[]api.Term{yes, no}, []api.Term{no, yes}},
		{[]api.Term{number(3, 3), number(1, 9)}, []api.Term{number(1, 9)}},
		{[]api.Term{number(1, 9), number(3, 3)}, []api.Term{number(1, 9)}},
		{[]api.Term{number(1, 5), number(4, 9)}, []api.Term{number(1, 5), number(4, 9)}},
		{[]api.Term{number(1, 9), maybe(number(1, 9))}, []api.Term{number(1, 9)}},
		{[]api.Term{number(4, 4), maybe(number(1, 9))}, []api.Term{maybe(number(1, 9))}},
		{[]api.Term{number(4, 5), maybe(number(1, 9))}, []api.Term{maybe(number(1, 9)), number(4, 5)}},
		{[]api.Term{text("b"), texts, text("a")}, []api.Term{texts}},
		{[]api.Term{text("b"), maybe(texts), text("a")}, []api.Term{maybe(texts)}},
		{[]api.Term{text("b"), number(1, 1), text("a"), no}, []api.Term{no, number(1, 1), text("a"), text("b")}},
		{[]api.Term{no, number(1, 1), all, text("a"), open()}, []api.Term{all}},
		{[]api.Term{all, all, no}, []api.Term{all}},
		{[]api.Term{one, one, two, one}, []api.Term{two}},
		{[]api.Term{open(), closed()}, []api.Term{open()}},
		{[]api.Term{closed(field("a", yes)), closed()}, []api.Term{closed(), closed(field("a", yes))}},
		{[]api.Term{open(field("b", yes)), open(field("a", yes))}, []api.Term{open(field("a", yes)), open(field("b", yes))}},
		{slices.Repeat([]api.Term{number(7, 7)}, 512), []api.Term{number(7, 7)}},
		{row(0, 512), row(0, 512)},
		{nested(15, yes).Terms, nested(15, yes).Terms},
	} {
		v, e := lat.Of(c.l...)
		is(t, "Of", v, e, value(c.want...), api.OK)
		slices.Reverse(c.l)
		v, e = lat.Of(c.l...)
		is(t, "Of, turned round", v, e, value(c.want...), api.OK)
	}
}

// 9.1: what Of refuses: too many terms, such as are not right or too deep, and what is left, if it is too heavy.
func TestOfRefuses(t *testing.T) {
	deep, heavy := term(nested(16, yes)), closed(field("b", row(0, 512)...))
	for _, c := range []struct {
		l    []api.Term
		want []api.Term
		e    api.Errno
	}{
		{row(0, 513), nil, api.ErrArg},
		{slices.Repeat([]api.Term{yes}, 513), nil, api.ErrArg},
		{slices.Repeat([]api.Term{{}}, 513), nil, api.ErrArg},
		{[]api.Term{yes, {}}, nil, api.ErrArg},
		{[]api.Term{all, maybe(yes)}, nil, api.ErrArg},
		{[]api.Term{closed(field("a"))}, nil, api.ErrArg},
		{[]api.Term{closed(field("a", yes, no)), all}, nil, api.ErrArg},
		{[]api.Term{closed(field("a", row(0, 513)...))}, nil, api.ErrArg},
		{nested(17, yes).Terms, nil, api.ErrArg},
		{[]api.Term{{}, deep}, nil, api.ErrArg},
		{[]api.Term{heavy, {}}, nil, api.ErrArg},
		{[]api.Term{deep}, nil, api.ErrDepth},
		{[]api.Term{deep, all}, nil, api.ErrDepth},
		{[]api.Term{all, deep}, nil, api.ErrDepth},
		{[]api.Term{open(), no, deep, yes}, nil, api.ErrDepth},
		{[]api.Term{deep, deep}, nil, api.ErrDepth},
		{[]api.Term{deep, heavy}, nil, api.ErrDepth},
		{[]api.Term{heavy, deep}, nil, api.ErrDepth},
		{[]api.Term{heavy}, nil, api.ErrWide},
		{[]api.Term{heavy, yes}, nil, api.ErrWide},
		{append(row(0, 511), closed(field("a", yes))), nil, api.ErrWide},
		{append(row(0, 510), closed(field("a", yes))), append(row(0, 510), closed(field("a", yes))), api.OK},
		{append(row(0, 509), nested(2, yes).Terms...), append(row(0, 509), nested(2, yes).Terms...), api.OK},
		{append(row(0, 510), nested(2, yes).Terms...), nil, api.ErrWide},
		{[]api.Term{closed(fields(0, 32, row(0, 512)...)...)}, nil, api.ErrWide},
		// What is below another one is not weighed.
		{[]api.Term{heavy, all}, []api.Term{all}, api.OK},
		{[]api.Term{heavy, open()}, []api.Term{open()}, api.OK},
		{[]api.Term{heavy, closed(field("b", numbers)), heavy}, []api.Term{closed(field("b", numbers))}, api.OK},
		{append(row(0, 511), numbers), []api.Term{numbers}, api.OK},
	} {
		v, e := lat.Of(c.l...)
		is(t, "Of", v, e, value(c.want...), c.e)
	}
	for i, v := range broken() {
		want, wantE := modelOf(v.Terms)
		got, e := lat.Of(v.Terms...)
		if !is(t, "Of", got, e, want, wantE) {
			t.Fatalf("Of, %d of those that are not right", i)
		}
	}
}

// modelOf is the value of terms by the chapter's words.
func modelOf(l []api.Term) (api.Value, api.Errno) {
	if len(l) > 512 {
		return api.Value{}, api.ErrArg
	}
	for _, s := range l {
		if !modelTerm(s) {
			return api.Value{}, api.ErrArg
		}
	}
	if rank.Depth(value(l...)) > 16 {
		return api.Value{}, api.ErrDepth
	}
	v, wide := modelLess(l)
	if wide {
		return api.Value{}, api.ErrWide
	}
	return v, api.OK
}

// 9.1: Of of rolled terms, held against the chapter's words.
func TestOfRolled(t *testing.T) {
	for i := range 3000 {
		d := new(dice(i))
		var l []api.Term
		for range d.roll(9) {
			l = append(l, rolledTerm(d, 2))
		}
		want, wantE := modelOf(l)
		got, e := lat.Of(l...)
		is(t, "Of", got, e, want, wantE)
	}
}

// 9.1: Struct, written out: what it makes, and what it refuses, in this order.
func TestStructByHand(t *testing.T) {
	deep := api.Field{Name: "d", V: nested(15, yes)}
	deeper := api.Field{Name: "d", V: nested(16, yes)}
	heavy := field("h", row(0, 512)...)
	wrong := field("w", yes, no)
	empty := field("e")
	for i, c := range []struct {
		l []api.Field
		e api.Errno
		// none: what comes is none, and no struct.
		none bool
	}{
		{l: nil},
		{l: []api.Field{field("a", yes)}},
		{l: []api.Field{field("a", yes), field("b", all), field("c", number(1, 2), text("x"))}},
		{l: fields(0, 32, yes)},
		{l: []api.Field{{Name: "d", V: nested(14, yes)}}},
		{l: []api.Field{field("h", row(0, 511)...)}},
		{l: []api.Field{field("g", row(0, 255)...), field("h", row(0, 256)...)}},
		{l: fields(0, 33, yes), e: api.ErrArg},
		{l: fields(0, 33), e: api.ErrArg},
		{l: []api.Field{field("", yes)}, e: api.ErrArg},
		{l: []api.Field{field("true", yes)}, e: api.ErrArg},
		{l: []api.Field{field("a", yes), field("B", yes)}, e: api.ErrArg},
		{l: []api.Field{field("b", yes), field("a", yes)}, e: api.ErrArg},
		{l: []api.Field{field("a", yes), field("a", yes)}, e: api.ErrArg},
		{l: []api.Field{wrong}, e: api.ErrArg},
		{l: []api.Field{field("a", yes), field("b", api.Term{})}, e: api.ErrArg},
		{l: []api.Field{deeper}, e: api.ErrArg},
		{l: []api.Field{field("h", row(0, 513)...)}, e: api.ErrArg},
		{l: []api.Field{empty}, none: true},
		{l: []api.Field{field("a", yes), empty, field("f", no)}, none: true},
		{l: fields(0, 32), none: true},
		{l: []api.Field{deep, empty}, none: true},
		{l: []api.Field{empty, heavy}, none: true},
		{l: []api.Field{empty, wrong}, e: api.ErrArg},
		{l: []api.Field{field("a", yes, no), empty}, e: api.ErrArg},
		{l: []api.Field{empty, empty}, e: api.ErrArg},
		{l: []api.Field{empty, deeper}, e: api.ErrArg},
		{l: []api.Field{empty, field("a", yes)}, e: api.ErrArg},
		{l: []api.Field{deep}, e: api.ErrDepth},
		{l: []api.Field{deep, heavy}, e: api.ErrDepth},
		{l: []api.Field{heavy}, e: api.ErrWide},
		{l: []api.Field{field("g", row(0, 256)...), field("h", row(0, 256)...)}, e: api.ErrWide},
		{l: fields(0, 32, row(0, 16)...), e: api.ErrWide},
		{l: fields(0, 32, row(0, 512)...), e: api.ErrWide},
	} {
		for _, o := range []bool{false, true} {
			var want api.Value
			if c.e == api.OK && !c.none {
				want = value(api.Term{Kind: 4, Open: o, Fields: c.l})
			}
			v, e := lat.Struct(o, c.l)
			if !is(t, "Struct", v, e, want, c.e) {
				t.Fatalf("Struct, %d", i)
			}
		}
	}
	for i, v := range broken() {
		if _, e := lat.Struct(true, []api.Field{{Name: "a", V: v}}); e != api.ErrArg {
			t.Errorf("Struct, %d of those that are not right: %d", i, e)
		}
	}
}

// belows are pairs of which the first one is below the second one, and not the other way round.
func belows() [][2]api.Value {
	v := value
	a, b := field("a", yes), field("b", yes)
	return [][2]api.Value{
		{v(), v(no)}, {v(), v(all)}, {v(), v(closed())}, {v(), v(row(0, 512)...)},
		{v(no), v(all)}, {v(texts), v(all)}, {v(open()), v(all)}, {v(closed()), v(all)}, {v(row(0, 512)...), v(all)}, {nested(15, yes), v(all)},
		{v(yes), v(both)}, {v(no, yes), v(both)}, {v(yes), v(no, yes)}, {v(number(3, 3)), v(number(1, 9))}, {v(number(3, 3)), v(maybe(number(1, 9)))}, {v(maybe(number(1, 9))), v(number(1, 9))}, {v(maybe(number(2, 8))), v(maybe(number(1, 9)))},
		{v(text("x")), v(texts)}, {v(maybe(texts)), v(texts)}, {v(text("x")), v(maybe(texts))}, {v(row(0, 512)...), v(numbers)}, {v(row(0, 511)...), v(row(0, 512)...)}, {v(number(1, 2), number(5, 6)), v(number(0, 2), number(5, 7), text("x"))},
		{v(closed()), v(open())}, {v(closed(a)), v(open())}, {v(open(a)), v(open())}, {v(closed(a)), v(open(a))}, {v(closed(a, b)), v(open(a))}, {v(closed(a, b)), v(open(b))}, {v(open(a, b)), v(open(b))},
		{v(closed(a)), v(closed(field("a", both)))}, {v(closed(a)), v(open(field("a", both)))}, {v(open(a)), v(open(field("a", both)))}, {v(open(a, b)), v(open(field("a", all)))}, {v(closed(a, b)), v(closed(a, field("b", all)))}, {v(closed(a, b)), v(closed(field("a", both), b))},
		{v(closed(a)), v(closed(a), closed(b))}, {v(closed(a), closed(b)), v(open())}, {v(closed(a, b)), v(open(a), open(b))}, {v(closed(a)), v(number(1, 1), closed(field("a", both)))},
		{v(open(field("a", closed(b)))), v(open(field("a", open())))}, {v(closed(field("a", no), field("b", yes))), v(closed(field("a", no, yes), field("b", no, yes)))}, {nested(15, yes), nested(15, both)}, {nested(15, yes), nested(15, all)}, {nested(14, closed(a)), nested(14, open())}, {nested(15, yes), nested(14, all)},
		{v(closed(fields(0, 32, yes)...)), v(open(fields(31, 1, both)...))},
	}
}

// aparts are pairs of which neither one is below the other one.
func aparts() [][2]api.Value {
	v := value
	a, b := field("a", yes), field("b", yes)
	return [][2]api.Value{
		{v(no), v(yes)}, {v(no), v(number(0, 0))}, {v(number(0, 0)), v(text("0"))}, {v(number(1, 5)), v(number(4, 9))}, {v(number(4, 5)), v(maybe(number(1, 9)))}, {v(number(1, 9)), v(number(1, 5), number(4, 9), text("x"))}, {v(text("x")), v(text("y"))}, {v(no, number(1, 1)), v(number(1, 1), text("x"))}, {v(maybe(both)), v(no, number(1, 1))},
		{v(no), v(closed())}, {v(texts), v(open())}, {v(closed()), v(number(0, 0))},
		{v(closed()), v(closed(a))}, {v(closed()), v(open(a))}, {v(closed(a)), v(closed(b))}, {v(open(a)), v(open(b))}, {v(open(a)), v(closed(b))}, {v(closed(a)), v(closed(a, b))}, {v(closed(a)), v(open(a, b))}, {v(open(a)), v(closed(field("a", both)))},
		{v(closed(a)), v(closed(field("a", no)))}, {v(closed(field("a", both), b)), v(closed(a, field("b", both)))}, {v(closed(a, field("b", no))), v(closed(field("a", both), b))}, {v(closed(a), closed(b)), v(closed(a), open(field("c", yes)))}, {v(closed(field("a", closed()))), v(closed(field("a", open(b))))}, {nested(15, yes), nested(15, no)}, {nested(14, closed(a)), nested(14, closed(b))},
		{v(closed(field("a", no, yes))), v(closed(a), closed(field("a", number(1, 1))))},
	}
}

// 9.2: Below, written out, in both directions.
func TestBelowByHand(t *testing.T) {
	for i, p := range belows() {
		if !lat.Below(p[0], p[1]) || lat.Below(p[1], p[0]) {
			t.Errorf("Below, %d: %v, turned round %v, of %s and %s", i, lat.Below(p[0], p[1]), lat.Below(p[1], p[0]), show(p[0]), show(p[1]))
		}
	}
	for i, p := range aparts() {
		if lat.Below(p[0], p[1]) || lat.Below(p[1], p[0]) {
			t.Errorf("Below, %d of those apart: true of %s and %s", i, show(p[0]), show(p[1]))
		}
	}
	for _, v := range slices.Concat(some(), edges()) {
		if !lat.Below(v, v) || !lat.Below(value(), v) || !lat.Below(v, value(all)) {
			t.Errorf("Below: %s is not below itself, or any, or none is not below it", show(v))
		}
	}
}

// 9.2: of values that are not right none is below, meet and join refuse them, on both sides.
func TestNotRight(t *testing.T) {
	good := []api.Value{value(), value(all), value(no), nested(15, yes), value(row(0, 512)...)}
	for i, v := range broken() {
		for _, w := range append(good, v) {
			if lat.Below(v, w) || lat.Below(w, v) {
				t.Errorf("Below, %d of those that are not right: true", i)
			}
			for _, p := range [][2]api.Value{{v, w}, {w, v}} {
				m, e := lat.Meet(p[0], p[1])
				is(t, "Meet", m, e, value(), api.ErrArg)
				j, e := lat.Join(p[0], p[1])
				is(t, "Join", j, e, value(), api.ErrArg)
			}
		}
	}
}

// 9.2: meets, written out, the sides turned round, too.
func TestMeetByHand(t *testing.T) {
	v := value
	a, b, c := field("a", yes), field("b", no), field("c", texts)
	for i, p := range [][3]api.Value{
		{v(), v(), v()}, {v(), v(all), v()}, {v(), v(closed()), v()}, {v(all), v(all), v(all)}, {v(all), v(row(0, 512)...), v(row(0, 512)...)}, {v(all), nested(15, yes), nested(15, yes)}, {v(all), v(maybe(numbers), open(a)), v(maybe(numbers), open(a))},
		{v(number(1, 9)), v(number(5, 20)), v(number(5, 9))}, {v(number(1, 9)), v(maybe(number(5, 20))), v(maybe(number(5, 9)))}, {v(maybe(number(1, 9))), v(number(9, 20)), v(number(9, 9))}, {v(number(1, 4)), v(number(5, 20)), v()}, {v(number(1, 9)), v(number(5, 5), number(20, 20)), v(number(5, 5))}, {v(both), v(yes), v(yes)}, {v(no, yes), v(both), v(no, yes)}, {v(no), v(yes), v()},
		{v(texts), v(text("x"), text("y")), v(text("x"), text("y"))}, {v(both, numbers, texts), v(maybe(both), maybe(numbers), maybe(texts)), v(maybe(both), maybe(numbers), maybe(texts))}, {v(no, number(1, 3)), v(number(2, 9), text("x")), v(number(2, 3))}, {v(no), v(closed()), v()}, {v(texts), v(open()), v()}, {v(no, open()), v(all), v(no, open())}, {v(number(1, 5), number(4, 9)), v(number(4, 5), number(8, 20)), v(number(4, 5), number(8, 9))}, {v(number(1, 5), number(4, 9)), v(number(2, 8)), v(number(2, 5), number(4, 8))},
		// Structs that lack each other's fields: Open on both sides, on one, on none.
		{v(closed()), v(closed()), v(closed())}, {v(closed()), v(open()), v(closed())}, {v(open()), v(open()), v(open())}, {v(closed()), v(closed(a)), v()}, {v(closed()), v(open(a)), v()}, {v(open()), v(closed(a)), v(closed(a))}, {v(open()), v(open(a)), v(open(a))},
		{v(open(a)), v(open(b)), v(open(a, b))}, {v(open(a, c)), v(open(b)), v(open(a, b, c))}, {v(open(a)), v(closed(b)), v()}, {v(closed(a)), v(closed(b)), v()}, {v(open(a)), v(closed(a, b)), v(closed(a, b))}, {v(open(a, b)), v(closed(a)), v()}, {v(open(a, c)), v(closed(a, b)), v()}, {v(closed(a)), v(closed(a, b)), v()}, {v(open(a, b)), v(open(b, c)), v(open(a, b, c))}, {v(closed(a, b)), v(closed(a, b)), v(closed(a, b))}, {v(closed(a, b)), v(open(a, b)), v(closed(a, b))},
		// What both have is met; what one alone has stays.
		{v(closed(field("a", number(1, 9)))), v(open(field("a", number(5, 20)))), v(closed(field("a", number(5, 9))))}, {v(open(field("a", number(1, 9)))), v(open(field("a", number(5, 20)))), v(open(field("a", number(5, 9))))}, {v(closed(field("a", both), b)), v(closed(a, field("b", all))), v(closed(a, b))}, {v(open(field("a", both), b)), v(open(a, c)), v(open(a, b, c))}, {v(open(field("a", open(b)))), v(open(field("a", open(c)))), v(open(field("a", open(b, c))))},
		{v(closed(field("a", closed(field("b", maybe(numbers)), c)))), v(open(field("a", open(field("b", number(7, 7)))))), v(closed(field("a", closed(field("b", number(7, 7)), c))))}, {v(closed(field("a", all))), v(closed(field("a", nested(14, yes).Terms...))), nested(15, yes)}, {nested(15, both), nested(15, yes), nested(15, yes)},
		// A field's meet that is none, and what has something in common beside it.
		{v(closed(a)), v(closed(field("a", no))), v()}, {v(open(a, b)), v(open(a, field("b", yes))), v()}, {v(open(a)), v(open(field("a", text("x")), b)), v()}, {nested(15, no), nested(15, yes), v()}, {v(open(field("a", open(b)))), v(open(field("a", open(field("b", yes))))), v()}, {v(closed(a), closed(b)), v(closed(field("a", no)), open(field("b", no))), v(closed(b))}, {v(numbers, open(a)), v(number(1, 1), closed(field("a", no))), v(number(1, 1))},
		// What is below another one of what comes goes.
		{v(open(a), open(b)), v(open(a), open(b)), v(open(a), open(b))}, {v(open(field("a", no)), open(a)), v(open(b)), v(open(field("a", no), b), open(a, b))}, {v(closed(a), closed(a, b)), v(open(a), open(b)), v(closed(a), closed(a, b))}, {v(open(field("a", yes)), open(field("b", yes))), v(open(field("a", both)), open(field("b", both))), v(open(field("a", yes)), open(field("b", yes)))},
	} {
		m, e := lat.Meet(p[0], p[1])
		ok := is(t, "Meet", m, e, p[2], api.OK)
		m, e = lat.Meet(p[1], p[0])
		if !is(t, "Meet, turned round", m, e, p[2], api.OK) || !ok {
			t.Fatalf("Meet, %d: of %s and %s", i, show(p[0]), show(p[1]))
		}
	}
}

// 9.2: meets that are just not too wide, and such as are: by the numbers of terms, by a struct's fields, by what comes, by a field's meet.
func TestMeetWide(t *testing.T) {
	v := value
	// pile is a struct that has n numbers in one field.
	pile := func(k string, n int) api.Value { return v(closed(field(k, row(0, n)...))) }
	for i, c := range []struct {
		a, b, want api.Value
		e          api.Errno
	}{
		// The numbers of terms: 512 and 513, whatever comes.
		{v(row(0, 16)...), v(row(0, 32)...), v(row(0, 16)...), api.OK},
		{v(row(0, 512)...), v(numbers), v(row(0, 512)...), api.OK},
		{v(row(0, 512)...), v(text("x")), v(), api.OK},
		{v(row(0, 512)...), v(), v(), api.OK},
		{v(row(0, 256)...), v(number(0, 9), number(8, 12)), v(row(0, 13)...), api.OK},
		{v(row(0, 27)...), v(row(0, 19)...), v(), api.ErrWide},
		{v(row(0, 27)...), v(words(0, 19)...), v(), api.ErrWide},
		{v(row(0, 257)...), v(texts, open()), v(), api.ErrWide},
		{v(row(0, 512)...), v(row(0, 512)...), v(), api.ErrWide},
		// A struct's fields: 32 and 33, none of whose meets is none.
		{v(open(fields(0, 16, yes)...)), v(open(fields(16, 16, yes)...)), v(open(fields(0, 32, yes)...)), api.OK},
		{v(open(fields(0, 17, yes)...)), v(open(fields(16, 16, yes)...)), v(open(fields(0, 32, yes)...)), api.OK},
		{v(open(fields(0, 16, yes)...)), v(open(fields(16, 17, yes)...)), v(), api.ErrWide},
		{v(open(fields(0, 32, yes)...)), v(open(fields(32, 1, yes)...)), v(), api.ErrWide},
		{v(open(fields(0, 32, yes)...)), v(open(fields(0, 32, yes)...)), v(open(fields(0, 32, yes)...)), api.OK},
		{v(open(fields(0, 17, yes)...)), v(open(append(fields(16, 1, no), fields(17, 16, yes)...)...)), v(), api.OK},
		{v(open(fields(0, 32, yes)...)), v(open(append(fields(31, 1, no), fields(32, 9, yes)...)...)), v(), api.OK},
		{v(closed(fields(0, 32, yes)...)), v(open(fields(32, 1, yes)...)), v(), api.OK},
		{v(no, open(fields(0, 32, yes)...)), v(no, open(fields(32, 1, yes)...)), v(), api.ErrWide},
		{v(open(field("a", open(fields(0, 16, yes)...)))), v(open(field("a", open(fields(16, 17, yes)...)))), v(), api.ErrWide},
		// What comes: a weight of 512 and of 513.
		{v(open(field("a", row(0, 255)...))), v(open(field("b", row(0, 256)...))), v(open(field("a", row(0, 255)...), field("b", row(0, 256)...))), api.OK},
		{v(open(field("a", row(0, 256)...))), v(open(field("b", row(0, 256)...))), v(), api.ErrWide},
		{v(open(field("a", row(0, 511)...))), v(open(field("b", yes))), v(), api.ErrWide},
		{v(open(field("a", row(0, 510)...))), v(open(field("b", yes))), v(open(field("a", row(0, 510)...), field("b", yes))), api.OK},
		{v(open(field("a", row(0, 9)...)), open(field("b", row(0, 9)...))), v(open(field("c", row(0, 240)...))), v(open(field("a", row(0, 9)...), field("c", row(0, 240)...)), open(field("b", row(0, 9)...), field("c", row(0, 240)...))), api.OK},
		{v(open(field("a", row(0, 9)...)), open(field("b", row(0, 9)...))), v(open(field("c", row(0, 247)...))), v(), api.ErrWide},
		// What is below another one is not weighed: a with b, which is below a alone.
		{v(open(field("a", row(0, 200)...))), v(open(field("a", all)), open(field("b", row(0, 300)...))), v(open(field("a", row(0, 200)...))), api.OK},
		{v(open(field("a", row(0, 300)...))), v(open(field("a", all)), open(field("b", row(0, 300)...))), v(open(field("a", row(0, 300)...))), api.OK},
		// A field's meet that is too wide, by each of these.
		{pile("a", 16), v(closed(field("a", row(0, 32)...))), pile("a", 16), api.OK},
		{pile("a", 27), v(closed(field("a", row(0, 19)...))), v(), api.ErrWide},
		{pile("a", 27), v(open(field("a", words(0, 19)...))), v(), api.ErrWide},
		{v(no, closed(field("a", row(0, 27)...))), v(no, closed(field("a", row(0, 19)...))), v(), api.ErrWide},
		{v(open(field("a", open(field("a", row(0, 256)...))))), v(open(field("a", open(field("b", row(0, 256)...))))), v(), api.ErrWide},
		{nested(15, row(0, 27)...), nested(15, row(0, 19)...), v(), api.ErrWide},
		// Fields are met as they rise: behind one that is none no other is, ahead of it each is.
		{v(open(field("a", yes), field("b", row(0, 27)...))), v(open(field("a", no), field("b", row(0, 19)...))), v(), api.OK},
		{v(open(field("a", row(0, 27)...), field("b", yes))), v(open(field("a", row(0, 19)...), field("b", no))), v(), api.ErrWide},
		{v(open(field("b", yes), field("c", row(0, 27)...))), v(open(field("a", yes), field("b", no), field("c", row(0, 19)...))), v(), api.OK},
		{v(open(field("b", row(0, 27)...), field("c", yes))), v(open(field("a", yes), field("b", row(0, 19)...), field("c", no))), v(), api.ErrWide},
		{v(open(field("a", open(field("x", row(0, 256)...))), field("b", yes))), v(open(field("a", open(field("y", row(0, 256)...))), field("b", no))), v(), api.ErrWide},
		{v(open(field("a", yes), field("b", open(fields(0, 32, yes)...)))), v(open(field("a", no), field("b", open(fields(32, 1, yes)...)))), v(), api.OK},
		// Structs that have no place for each other's fields have none of them met.
		{v(closed(field("a", row(0, 27)...))), v(open(field("a", row(0, 19)...), field("b", yes))), v(), api.OK},
		{v(closed(field("a", row(0, 27)...), field("c", yes))), v(closed(field("a", row(0, 19)...), field("b", yes))), v(), api.OK},
	} {
		m, e := lat.Meet(c.a, c.b)
		ok := is(t, "Meet", m, e, c.want, c.e)
		m, e = lat.Meet(c.b, c.a)
		if !is(t, "Meet, turned round", m, e, c.want, c.e) || !ok {
			t.Fatalf("Meet, %d: of %s and %s", i, show(c.a), show(c.b))
		}
	}
}

// 9.2: joins, written out, the sides turned round, too.
func TestJoinByHand(t *testing.T) {
	v := value
	a, b := field("a", yes), field("b", no)
	for i, c := range []struct {
		a, b, want api.Value
		e          api.Errno
	}{
		{v(), v(), v(), api.OK}, {v(), v(no), v(no), api.OK}, {v(), v(all), v(all), api.OK}, {v(all), v(all), v(all), api.OK}, {v(all), v(row(0, 512)...), v(all), api.OK}, {v(all), nested(15, yes), v(all), api.OK},
		{v(number(1, 9)), v(number(3, 3)), v(number(1, 9)), api.OK}, {v(number(1, 5)), v(number(4, 9)), v(number(1, 5), number(4, 9)), api.OK}, {v(number(1, 3)), v(number(4, 9)), v(number(1, 3), number(4, 9)), api.OK}, {v(no), v(yes), v(no, yes), api.OK}, {v(no, yes), v(both), v(both), api.OK}, {v(maybe(both)), v(both), v(both), api.OK}, {v(maybe(texts)), v(text("x")), v(maybe(texts)), api.OK},
		{v(text("x"), text("z")), v(no, text("y")), v(no, text("x"), text("y"), text("z")), api.OK}, {v(number(1, 1), number(5, 5), text("x")), v(number(0, 3), texts), v(number(0, 3), number(5, 5), texts), api.OK}, {v(number(1, 1)), v(number(1, 1)), v(number(1, 1)), api.OK}, {v(text("a"), closed()), v(number(1, 1), open()), v(number(1, 1), text("a"), open()), api.OK},
		{v(closed()), v(open()), v(open()), api.OK}, {v(closed()), v(closed(a)), v(closed(), closed(a)), api.OK}, {v(closed(a)), v(open(a)), v(open(a)), api.OK}, {v(open(a)), v(open(b)), v(open(a), open(b)), api.OK}, {v(closed(a, b)), v(open(b)), v(open(b)), api.OK}, {v(closed(a)), v(closed(field("a", no))), v(closed(field("a", no)), closed(a)), api.OK}, {v(closed(a)), v(closed(field("a", both))), v(closed(field("a", both))), api.OK}, {nested(15, yes), nested(15, both), nested(15, both), api.OK}, {nested(15, yes), nested(15, no), v(append(nested(15, no).Terms, nested(15, yes).Terms...)...), api.OK},
		// A weight of 512 and of 513; what is below another one is not weighed.
		{v(row(0, 256)...), v(row(256, 256)...), v(row(0, 512)...), api.OK}, {v(row(0, 512)...), v(row(0, 512)...), v(row(0, 512)...), api.OK}, {v(row(0, 512)...), v(row(100, 200)...), v(row(0, 512)...), api.OK}, {v(row(0, 512)...), v(numbers), v(numbers), api.OK}, {v(row(0, 512)...), v(number(0, 0)), v(row(0, 512)...), api.OK},
		{v(row(0, 512)...), v(no), v(), api.ErrWide}, {v(row(0, 256)...), v(row(256, 257)...), v(), api.ErrWide}, {v(row(0, 512)...), v(words(0, 512)...), v(), api.ErrWide}, {v(row(0, 512)...), v(number(512, 512)), v(), api.ErrWide},
		{v(closed(field("a", row(0, 255)...))), v(closed(field("b", row(0, 255)...))), v(closed(field("a", row(0, 255)...)), closed(field("b", row(0, 255)...))), api.OK}, {v(closed(field("a", row(0, 255)...))), v(closed(field("b", row(0, 256)...))), v(), api.ErrWide}, {v(closed(field("a", row(0, 511)...))), v(open()), v(open()), api.OK}, {v(closed(field("a", row(0, 511)...))), v(closed(field("a", number(0, 600)))), v(closed(field("a", number(0, 600)))), api.OK}, {nested(4, row(0, 508)...), v(no), v(), api.ErrWide}, {nested(4, row(0, 507)...), v(no), v(append([]api.Term{no}, nested(4, row(0, 507)...).Terms...)...), api.OK},
		{v(row(0, 9)...), v(append(row(0, 300), closed(field("a", row(0, 211)...)))...), v(append(row(0, 300), closed(field("a", row(0, 211)...)))...), api.OK}, {v(row(0, 301)...), v(append(row(0, 300), closed(field("a", row(0, 211)...)))...), v(), api.ErrWide},
	} {
		m, e := lat.Join(c.a, c.b)
		ok := is(t, "Join", m, e, c.want, c.e)
		m, e = lat.Join(c.b, c.a)
		if !is(t, "Join, turned round", m, e, c.want, c.e) || !ok {
			t.Fatalf("Join, %d: of %s and %s", i, show(c.a), show(c.b))
		}
	}
}

// 9.2: values at the edges and rolled ones, each two of them, held against the chapter's words.
func TestPairs(t *testing.T) {
	l := some()
	for _, a := range l {
		for _, b := range l {
			pair(t, a, b)
		}
	}
	for i, a := range edges() {
		for _, b := range append([]api.Value{value(), value(all), value(numbers, open())}, edges()[i:]...) {
			pair(t, a, b)
		}
	}
	for i := range 2000 {
		d := new(dice(i))
		pair(t, rolled(d, 3), rolled(d, 3))
	}
}

// pair holds what comes of two right values against the chapter's words.
func pair(t *testing.T, a, b api.Value) {
	t.Helper()
	if lat.Below(a, b) != modelBelow(a, b) {
		t.Errorf("Below: %v of %s and %s", lat.Below(a, b), show(a), show(b))
	}
	for _, c := range []struct {
		what  string
		call  func(a, b api.Value) (api.Value, api.Errno)
		model func(a, b api.Value) (api.Value, bool)
	}{{"Meet", lat.Meet, modelMeet}, {"Join", lat.Join, modelJoin}} {
		got, e := c.call(a, b)
		want, wide := c.model(a, b)
		if wide {
			is(t, c.what, got, e, api.Value{}, api.ErrWide)
		} else {
			is(t, c.what, got, e, want, api.OK)
		}
	}
}

// R1: all calls end, whatever they are given.
func TestEnds(t *testing.T) {
	deep, odd := nested(1<<14, yes), value(api.Term{Kind: math.MinInt, Lo: math.MinInt, Hi: math.MaxInt, Text: strings.Repeat("x", 1<<16), Any: true, Maybe: true, Open: true, Fields: fields(0, 900, all)})
	wide := value(slices.Repeat([]api.Term{closed(fields(0, 32, row(0, 300)...)...)}, 600)...)
	// Each level has the one below it twice: few lists, and many ways through them.
	twice := value(yes)
	for range 18 {
		twice = value(closed(api.Field{Name: "a", V: twice}, api.Field{Name: "b", V: twice}))
	}
	for i, v := range []api.Value{deep, odd, wide, twice} {
		if lat.Right(v) || lat.Below(v, v) {
			t.Errorf("Right or Below, %d: true", i)
		}
		m, e := lat.Meet(v, v)
		is(t, "Meet", m, e, value(), api.ErrArg)
		m, e = lat.Join(v, lat.Any())
		is(t, "Join", m, e, value(), api.ErrArg)
		m, e = lat.Of(v.Terms...)
		is(t, "Of", m, e, value(), api.ErrArg)
		m, e = lat.Struct(false, []api.Field{{Name: "a", V: v}, field("b")})
		is(t, "Struct", m, e, value(), api.ErrArg)
	}
}
