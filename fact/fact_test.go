package fact_test

import (
	"fmt"
	"math"
	"slices"
	"strings"
	"testing"

	"treillage/api"
	"treillage/fact"
	"treillage/lat"
	"treillage/rank"
)

// show is the begin of a value, which may be great.
func show(v any) string {
	s := fmt.Sprint(v)
	return s[:min(len(s), 200)]
}

// is fails, if a value and its error are not those that are asked; beside an error none is.
func is(t *testing.T, what string, got api.Value, e api.Errno, want api.Value, wantE api.Errno) {
	t.Helper()
	if e != wantE || !rank.Same(got, want) {
		t.Errorf("%s: %s %d, not %s %d", what, show(got), e, show(want), wantE)
	}
}

// isTerm is the same of a term.
func isTerm(t *testing.T, what string, got api.Term, e api.Errno, want api.Term, wantE api.Errno) {
	t.Helper()
	is(t, what, value(got), e, value(want), wantE)
}

// known are facts of a value: what One refuses, and whether it is settled, is ready, and waits.
type known struct {
	v                     api.Value
	e                     api.Errno
	settled, ready, waits bool
}

// facts are facts of values, by hand.
func facts() []known {
	v := value
	a, b, far := field("a", number(1, 1)), field("b", maybe(texts)), field("c", number(1, 9))
	// s: settled, and so ready; r: ready, and not settled, so that it waits; w: it waits, and no more; n: none of these.
	s := func(l ...api.Term) known { return known{v: v(l...), settled: true, ready: true} }
	r := func(l ...api.Term) known { return known{v: v(l...), ready: true, waits: true} }
	w := func(l ...api.Term) known { return known{v: v(l...), waits: true} }
	n := func(l ...api.Term) known { return known{v: v(l...)} }
	vague := func(k known) known {
		k.e = api.ErrVague
		return k
	}
	return []known{
		{e: api.ErrClash}, {v: api.Value{Terms: []api.Term{}}, e: api.ErrClash}, vague(n(all)),
		vague(n(no, yes)), vague(n(number(1, 1), number(3, 3))), vague(n(yes, text("a"))), vague(n(text("a"), closed())), vague(n(closed(), closed(a))), vague(n(row(512)...)),
		vague(w(maybe(both), number(1, 1))), vague(w(maybe(both), maybe(numbers), maybe(texts))), vague(w(number(1, 1), open(b))), vague(w(closed(), closed(b))),
		s(no), s(yes), s(number(0, 0)), s(number(7, 7)), s(number(top, top)), s(number(-top, -top)), s(text("")), s(text("a")), s(text("\x00\xff\"\\\n")), s(text(strings.Repeat("x", 256))),
		n(both), n(number(1, 2)), n(numbers), n(texts),
		r(maybe(both)), r(maybe(number(1, 2))), r(maybe(numbers)), r(maybe(texts)),
		s(closed()), s(open()), s(closed(a)), s(open(a)), s(closed(fields(32, no)...)), s(closed(field("a", open(field("a", closed()))))), s(open(a, field("b", closed(a, field("b", text("x")))))), s(nested(15, yes).Terms...), s(nested(15, open()).Terms...),
		r(closed(b)), r(open(b)), r(closed(a, b)), r(open(a, field("b", closed(a, b)))), r(nested(15, maybe(both)).Terms...), r(closed(a, field("b", open(field("b", open(b)))), field("c", open()))),
		n(closed(far)), n(open(far)), n(closed(a, far)), n(closed(field("a", all))), n(open(field("a", no, yes))), n(closed(field("a", closed(), closed(a)))), n(closed(field("a", closed(field("a", closed(far)))))), n(nested(15, both).Terms...), n(nested(15, all).Terms...), n(closed(field("a", closed(a)), field("b", open(far)))), vague(n(closed(far), closed(fields(31, yes)...))),
		w(closed(b, far)), w(open(a, b, far)), w(closed(field("a", all), b)), w(closed(b, field("c", all))), w(closed(field("a", maybe(both), number(1, 1)))), w(closed(field("a", no, yes), field("b", open(field("c", b.V.Terms...))))), w(closed(field("a", closed(), closed(b)))), w(nested(14, both, maybe(texts)).Terms...), vague(w(closed(b), closed(fields(31, yes)...))),
	}
}

// asks fails, if a value's facts are not these.
func asks(t *testing.T, k known) {
	t.Helper()
	want := api.Term{}
	if k.e == api.OK {
		want = k.v.Terms[0]
	}
	got, e := fact.One(k.v)
	isTerm(t, "One of "+show(k.v), got, e, want, k.e)
	for _, c := range []struct {
		what string
		got  func(v api.Value) bool
		want bool
	}{{"Settled", fact.Settled, k.settled}, {"Ready", fact.Ready, k.ready}, {"Waits", fact.Waits, k.waits}} {
		if c.got(k.v) != c.want {
			t.Errorf("%s: %v of %s", c.what, !c.want, show(k.v))
		}
	}
}

// 11.1: One, Settled, Ready and Waits, by hand.
func TestFactsByHand(t *testing.T) {
	for _, k := range facts() {
		if !lat.Right(k.v) {
			t.Fatalf("not right: %s", show(k.v))
		}
		asks(t, k)
	}
}

// 11.1: what holds of a value holds of the struct around it, Open or not, but that it is one thing then; and what is not settled, or not ready, spoils what stands beside it.
func TestFactsWithin(t *testing.T) {
	for _, k := range facts() {
		if len(k.v.Terms) == 0 || rank.Depth(k.v) > 14 || rank.Weight(k.v) > 500 {
			continue
		}
		in, beside := api.Field{Name: "m", V: k.v}, field("z", yes)
		for _, s := range []api.Term{closed(in), open(in), closed(in, beside), open(field("a", text("x")), in), closed(api.Field{Name: "q", V: value(open(in))})} {
			asks(t, known{value(s), api.OK, k.settled, k.ready, k.waits})
		}
		asks(t, known{value(closed(in, field("z", maybe(both)))), api.OK, false, k.ready, true})
		asks(t, known{value(open(field("a", maybe(both)), in)), api.OK, false, k.ready, true})
		asks(t, known{value(open(field("a", numbers), in)), api.OK, false, false, k.waits})
		asks(t, known{value(closed(in, field("z", no, yes))), api.OK, false, false, k.waits})
	}
}

// 11.1: of what is not right One answers ErrArg, and the others no.
func TestFactsOfWrong(t *testing.T) {
	for _, v := range broken() {
		asks(t, known{v: v, e: api.ErrArg})
	}
}

// isAtom tells whether a right term is an atom by the words of chapter 7.
func isAtom(t api.Term) bool {
	return (t.Kind == 1 || t.Kind == 2) && t.Lo == t.Hi || t.Kind == 3 && !t.Any
}

// model is a right value's facts by the chapter's words.
func model(v api.Value) known {
	k := known{v: v}
	for _, s := range v.Terms {
		k.waits = k.waits || s.Maybe
		for _, f := range s.Fields {
			k.waits = k.waits || model(f.V).waits
		}
	}
	if len(v.Terms) == 0 {
		k.e = api.ErrClash
		return k
	}
	s := v.Terms[0]
	if len(v.Terms) > 1 || s.Kind == 5 {
		k.e = api.ErrVague
		return k
	}
	k.settled = isAtom(s) || s.Kind == 4
	k.ready = k.settled || s.Maybe
	for _, f := range s.Fields {
		in := model(f.V)
		k.settled, k.ready = k.settled && in.settled, k.ready && in.ready
	}
	return k
}

// 11.1, 11.4: rolled values, held against the chapter's words; what is settled is ready, and doesn't wait.
func TestFactsRolled(t *testing.T) {
	var settled, ready, waits, refused int
	for _, v := range manyRolled(6000) {
		k := model(v)
		asks(t, k)
		count := func(n *int, b bool) {
			if b {
				*n++
			}
		}
		count(&settled, k.settled && rank.Depth(v) > 1)
		count(&ready, k.ready && !k.settled && rank.Depth(v) > 1)
		count(&waits, k.waits && !k.ready && rank.Depth(v) > 1)
		count(&refused, k.e != api.OK)
		if fact.Settled(v) && (!fact.Ready(v) || fact.Waits(v)) {
			t.Errorf("settled, and not ready, or waits: %s", show(v))
		}
		if fact.Ready(v) && !fact.Settled(v) && !fact.Waits(v) {
			t.Errorf("ready, not settled, and doesn't wait: %s", show(v))
		}
	}
	if settled < 200 || ready < 200 || waits < 200 || refused < 200 {
		t.Errorf("only %d are settled, %d ready, %d wait, %d are refused", settled, ready, waits, refused)
	}
}

// 11.2: Pick, by hand.
func TestPickByHand(t *testing.T) {
	deep := value(closed(field("a", closed(field("b", number(5, 5)), field("c", text("x"), open()))), field("d", maybe(texts)), field("e", all), field("f", open())))
	two := value(closed(field("a", yes)), closed(field("b", yes)))
	path := func(s string) []string {
		if s == "" {
			return nil
		}
		return strings.Split(s, ".")
	}
	for _, c := range []struct {
		v    api.Value
		path string
		want api.Value
		e    api.Errno
	}{
		// Without names: whatever is right.
		{value(), "", value(), api.OK}, {value(all), "", value(all), api.OK}, {value(number(1, 2)), "", value(number(1, 2)), api.OK}, {two, "", two, api.OK}, {deep, "", deep, api.OK}, {value(row(512)...), "", value(row(512)...), api.OK}, {nested(15, yes), "", nested(15, yes), api.OK},
		{value(no, no), "", value(), api.ErrArg}, {nested(16, yes), "", value(), api.ErrArg},
		{deep, "a", deep.Terms[0].Fields[0].V, api.OK}, {deep, "a.b", value(number(5, 5)), api.OK}, {deep, "a.c", value(text("x"), open()), api.OK}, {deep, "d", value(maybe(texts)), api.OK}, {deep, "e", value(all), api.OK}, {deep, "f", value(open()), api.OK},
		{nested(15, maybe(both)), strings.Repeat("a.", 14) + "a", value(maybe(both)), api.OK}, {nested(15, yes), "a.a.a", nested(12, yes), api.OK},
		{value(open(fields(32, text("y"))...)), "f131", value(text("y")), api.OK}, {value(open(fields(32, text("y"))...)), "f100", value(text("y")), api.OK},
		// What One refuses.
		{value(), "a", value(), api.ErrClash}, {value(), "a.b", value(), api.ErrClash}, {value(all), "a", value(), api.ErrVague}, {two, "a", value(), api.ErrVague}, {two, "q", value(), api.ErrVague}, {value(no, yes), "a", value(), api.ErrVague}, {value(open(field("a", yes)), open(field("b", yes))), "a", value(), api.ErrVague},
		{deep, "e.a", value(), api.ErrVague}, {deep, "a.c.a", value(), api.ErrVague},
		// No struct.
		{value(yes), "a", value(), api.ErrKind}, {value(number(1, 9)), "a", value(), api.ErrKind}, {value(text("a")), "a", value(), api.ErrKind}, {value(maybe(texts)), "a", value(), api.ErrKind}, {value(texts), "a.b", value(), api.ErrKind}, {deep, "a.b.c", value(), api.ErrKind}, {deep, "d.a", value(), api.ErrKind}, {deep, "a.b.c.d.e", value(), api.ErrKind},
		{nested(15, yes), strings.Repeat("a.", 15) + "a", value(), api.ErrKind}, {nested(15, yes), strings.Repeat("a.", 5000) + "a", value(), api.ErrKind},
		// No such field, also of one that is Open, and of names that are none.
		{value(closed()), "a", value(), api.ErrField}, {value(open()), "a", value(), api.ErrField}, {deep, "b", value(), api.ErrField}, {deep, "g", value(), api.ErrField}, {deep, "a.a", value(), api.ErrField}, {deep, "f.a", value(), api.ErrField}, {deep, "a.d.b", value(), api.ErrField}, {deep, "A", value(), api.ErrField}, {deep, ".", value(), api.ErrField}, {deep, "a.", value(), api.ErrField}, {deep, "any", value(), api.ErrField}, {deep, "aa", value(), api.ErrField}, {deep, "a\x00", value(), api.ErrField},
		// Of several the first one.
		{deep, "q.b.c", value(), api.ErrField}, {deep, "e.q.q", value(), api.ErrVague}, {deep, "d.q.q", value(), api.ErrKind}, {value(closed(field("a", yes, no))), "q", value(), api.ErrArg}, {value(yes, no), "a", value(), api.ErrArg}, {nested(16, yes), "q", value(), api.ErrArg}, {nested(16, yes), "a", value(), api.ErrArg},
	} {
		got, e := fact.Pick(c.v, path(c.path)...)
		is(t, "Pick of "+show(c.v)+" by "+show(c.path), got, e, c.want, c.e)
	}
}

// 11.2: Pick of what is not right, also where the path leads past what is wrong.
func TestPickOfWrong(t *testing.T) {
	for _, v := range broken() {
		for _, path := range [][]string{nil, {"a"}, {"a", "a"}, {"b"}, {"c"}, {"q"}} {
			got, e := fact.Pick(v, path...)
			is(t, "Pick of "+show(v), got, e, value(), api.ErrArg)
		}
	}
}

// 11.2: a path is gone name by name: by what One tells of what is there.
func TestPickRolled(t *testing.T) {
	seen := map[api.Errno]int{}
	for i, v := range manyRolled(4000) {
		d := new(dice(i))
		var path []string
		want, wantE := v, api.OK
		for range d.roll(4) {
			key := []string{"a", "b", "c"}[d.roll(3)]
			path = append(path, key)
			if wantE != api.OK {
				continue
			}
			s, e := fact.One(want)
			at := slices.IndexFunc(s.Fields, func(f api.Field) bool { return f.Name == key })
			switch {
			case e != api.OK:
				want, wantE = value(), e
			case s.Kind != 4:
				want, wantE = value(), api.ErrKind
			case at < 0:
				want, wantE = value(), api.ErrField
			default:
				want = s.Fields[at].V
			}
		}
		got, e := fact.Pick(v, path...)
		is(t, "Pick of "+show(v)+" by "+show(path), got, e, want, wantE)
		seen[wantE]++
	}
	for _, e := range []api.Errno{api.OK, api.ErrClash, api.ErrVague, api.ErrKind, api.ErrField} {
		if seen[e] < 100 {
			t.Errorf("%d was answered just %d times", e, seen[e])
		}
	}
}

// 11.2: Number and Text, by hand.
func TestNumberText(t *testing.T) {
	long := strings.Repeat("\xfe", 256)
	for _, c := range []struct {
		v      api.Value
		n      int
		s      string
		waits  bool
		en, es api.Errno
	}{
		{v: value(), en: api.ErrClash, es: api.ErrClash},
		{v: value(all), en: api.ErrVague, es: api.ErrVague}, {v: value(number(1, 1), number(2, 2)), en: api.ErrVague, es: api.ErrVague}, {v: value(text("a"), text("b")), en: api.ErrVague, es: api.ErrVague}, {v: value(number(1, 1), text("a")), en: api.ErrVague, es: api.ErrVague}, {v: value(maybe(numbers), maybe(texts)), en: api.ErrVague, es: api.ErrVague}, {v: value(no, yes), en: api.ErrVague, es: api.ErrVague},
		{v: value(no), en: api.ErrKind, es: api.ErrKind}, {v: value(yes), en: api.ErrKind, es: api.ErrKind}, {v: value(both), en: api.ErrKind, es: api.ErrKind}, {v: value(maybe(both)), en: api.ErrKind, es: api.ErrKind}, {v: value(closed()), en: api.ErrKind, es: api.ErrKind}, {v: nested(1, number(5, 5)), en: api.ErrKind, es: api.ErrKind}, {v: nested(1, maybe(texts)), en: api.ErrKind, es: api.ErrKind}, {v: value(open()), en: api.ErrKind, es: api.ErrKind},
		{v: value(number(0, 0)), es: api.ErrKind}, {v: value(number(7, 7)), n: 7, es: api.ErrKind}, {v: value(number(-7, -7)), n: -7, es: api.ErrKind}, {v: value(number(top, top)), n: top, es: api.ErrKind}, {v: value(number(-top, -top)), n: -top, es: api.ErrKind},
		{v: value(text("")), en: api.ErrKind}, {v: value(text("ab")), s: "ab", en: api.ErrKind}, {v: value(text("\x00\n\"\\\xff")), s: "\x00\n\"\\\xff", en: api.ErrKind}, {v: value(text(long)), s: long, en: api.ErrKind}, {v: value(text("7")), s: "7", en: api.ErrKind},
		{v: value(number(1, 2)), en: api.ErrVague, es: api.ErrKind}, {v: value(numbers), en: api.ErrVague, es: api.ErrKind}, {v: value(texts), en: api.ErrKind, es: api.ErrVague},
	} {
		n, waits, e := fact.Number(c.v)
		if n != c.n || waits || e != c.en {
			t.Errorf("Number of %s: %d %v %d", show(c.v), n, waits, e)
		}
		s, waits, e := fact.Text(c.v)
		if s != c.s || waits || e != c.es {
			t.Errorf("Text of %s: %q %v %d", show(c.v), s, waits, e)
		}
	}
	for _, v := range []api.Value{value(maybe(number(1, 2))), value(maybe(numbers)), value(maybe(number(5, top)))} {
		if n, waits, e := fact.Number(v); n != 0 || !waits || e != api.OK {
			t.Errorf("Number of %s: %d %v %d", show(v), n, waits, e)
		}
		if s, waits, e := fact.Text(v); s != "" || waits || e != api.ErrKind {
			t.Errorf("Text of %s: %q %v %d", show(v), s, waits, e)
		}
	}
	later := value(maybe(texts))
	if n, waits, e := fact.Number(later); n != 0 || waits || e != api.ErrKind {
		t.Errorf("Number of a text that waits: %d %v %d", n, waits, e)
	}
	if s, waits, e := fact.Text(later); s != "" || !waits || e != api.OK {
		t.Errorf("Text that waits: %q %v %d", s, waits, e)
	}
	for _, v := range broken() {
		if n, waits, e := fact.Number(v); n != 0 || waits || e != api.ErrArg {
			t.Errorf("Number of %s: %d %v %d", show(v), n, waits, e)
		}
		if s, waits, e := fact.Text(v); s != "" || waits || e != api.ErrArg {
			t.Errorf("Text of %s: %q %v %d", show(v), s, waits, e)
		}
	}
}

// 11.3: Refines, by hand.
func TestRefinesByHand(t *testing.T) {
	v := value
	a, b, range1 := field("a", number(1, 1)), field("b", text("x")), field("a", number(1, 9))
	for _, c := range []struct {
		a, b api.Value
		want bool
	}{
		// Settled, and below.
		{v(yes), v(yes), true}, {v(yes), v(both), true}, {v(yes), v(maybe(both)), true}, {v(yes), v(no, yes), true}, {v(yes), v(all), true}, {v(number(3, 3)), v(number(1, 9)), true}, {v(number(3, 3)), v(maybe(number(1, 9)), texts), true}, {v(text("")), v(texts), true}, {v(text("a")), v(maybe(both), maybe(numbers), maybe(texts)), true},
		{v(closed()), v(closed()), true}, {v(closed()), v(open()), true}, {v(open()), v(open()), true}, {v(open()), v(all), true}, {v(closed(a)), v(closed(range1)), true}, {v(closed(a, b)), v(open(range1)), true}, {v(open(a, b)), v(open(b)), true}, {v(closed(a)), v(closed(b), open(range1)), true}, {nested(15, yes), nested(15, both), true}, {nested(15, yes), nested(15, maybe(both)), true}, {nested(15, yes), nested(14, all), true},
		// Settled, and not below.
		{v(yes), v(), false}, {v(yes), v(no), false}, {v(yes), v(number(1, 1)), false}, {v(number(0, 0)), v(number(1, 9)), false}, {v(number(10, 10)), v(maybe(number(1, 9))), false}, {v(text("a")), v(text("b"), text("c")), false}, {v(closed()), v(closed(a)), false}, {v(closed(a)), v(closed()), false}, {v(open()), v(closed()), false}, {v(open(a)), v(closed(a)), false}, {v(closed(b)), v(open(a)), false}, {v(closed(field("a", number(0, 0)))), v(closed(range1)), false}, {nested(15, yes), nested(15, no), false}, {nested(15, yes), nested(14, texts), false},
		// Below, and not settled.
		{v(), v(), false}, {v(), v(yes), false}, {v(), v(all), false}, {v(all), v(all), false}, {v(both), v(both), false}, {v(maybe(both)), v(both), false}, {v(maybe(texts)), v(maybe(texts)), false}, {v(number(2, 3)), v(number(1, 9)), false}, {v(no, yes), v(both), false}, {v(number(1, 1), number(2, 2)), v(all), false}, {v(closed(range1)), v(closed(range1)), false}, {v(closed(range1)), v(all), false}, {v(open(a, field("b", maybe(texts)))), v(open(a)), false}, {v(closed(a), closed(b)), v(open()), false}, {nested(15, maybe(both)), nested(15, both), false}, {nested(15, both), v(all), false},
		// Neither.
		{v(both), v(yes), false}, {v(all), v(yes), false}, {v(numbers), v(texts), false}, {v(closed(range1)), v(closed(a)), false},
	} {
		if !lat.Right(c.a) || !lat.Right(c.b) {
			t.Fatalf("not right: %s or %s", show(c.a), show(c.b))
		}
		if fact.Refines(c.a, c.b) != c.want {
			t.Errorf("Refines(%s, %s): %v", show(c.a), show(c.b), !c.want)
		}
	}
}

// 11.3: where one of both is not right, nothing refines.
func TestRefinesOfWrong(t *testing.T) {
	for _, v := range broken() {
		for _, w := range []api.Value{value(), value(yes), value(number(1, 1)), value(closed()), value(all), v} {
			if fact.Refines(v, w) || fact.Refines(w, v) {
				t.Errorf("Refines of %s and %s, or turned round", show(v), show(w))
			}
		}
	}
}

// 11.3, 11.4: rolled values: what is settled and below refines; it refines each value above that one, too, and itself.
func TestRefinesRolled(t *testing.T) {
	l := manyRolled(400)
	refined, notBelow, notSettled, above := 0, 0, 0, 0
	for i, a := range l {
		if fact.Refines(a, a) != fact.Settled(a) || fact.Refines(a, lat.Any()) != fact.Settled(a) || fact.Refines(a, lat.None()) {
			t.Errorf("%s refines itself, any or none", show(a))
		}
		for j, b := range l {
			settled, below := model(a).settled, lat.Below(a, b)
			if fact.Refines(a, b) != (settled && below) {
				t.Errorf("Refines(%s, %s): %v", show(a), show(b), !(settled && below))
			}
			switch {
			case settled && below:
				refined++
				c := l[(i*7+j*13)%len(l)]
				if wider, e := lat.Join(b, c); e == api.OK && !fact.Refines(a, wider) {
					t.Errorf("%s refines %s, but not %s", show(a), show(b), show(wider))
				}
				if lat.Below(b, c) {
					above++
					if !fact.Refines(a, c) {
						t.Errorf("%s refines %s, but not %s", show(a), show(b), show(c))
					}
				}
			case settled:
				notBelow++
			case below:
				notSettled++
			}
		}
	}
	if refined < 1000 || notBelow < 1000 || notSettled < 1000 || above < 100 {
		t.Errorf("only %d refine, %d are not below, %d not settled, %d below one more", refined, notBelow, notSettled, above)
	}
}

// spoil changes all that a value has.
func spoil(v api.Value) {
	for i := range v.Terms[:cap(v.Terms)] {
		s := &v.Terms[:cap(v.Terms)][i]
		for j := range s.Fields[:cap(s.Fields)] {
			f := &s.Fields[:cap(s.Fields)][j]
			f.Name = "spoilt"
			spoil(f.V)
		}
		*s = api.Term{Kind: 77}
	}
}

// walled is the same value in lists that have something behind them, which is none of it.
func walled(v api.Value) api.Value {
	var terms []api.Term
	for _, s := range v.Terms {
		fields := make([]api.Field, 0, len(s.Fields)+1)
		for _, f := range s.Fields {
			fields = append(fields, api.Field{Name: f.Name, V: walled(f.V)})
		}
		s.Fields = append(fields, field("behind", api.Term{Kind: 78}))[:len(fields)]
		terms = append(terms, s)
	}
	return api.Value{Terms: append(terms, api.Term{Kind: 78})[:len(terms)]}
}

// R5: nothing that is handed in is changed, nor what stands behind it; what is answered shares nothing with it.
func TestMemory(t *testing.T) {
	l := append(manyRolled(500), nested(15, yes), value(open(field("a", yes), field("b", closed(field("c", open()))))))
	for _, v := range l {
		w := walled(v)
		path := []string{"a", "b", "behind"}
		one, _ := fact.One(w)
		spoil(value(one))
		for n := range 4 {
			got, _ := fact.Pick(w, path[:n]...)
			spoil(got)
		}
		fact.Settled(w)
		fact.Ready(w)
		fact.Waits(w)
		fact.Number(w)
		fact.Text(w)
		fact.Refines(w, w)
		if !rank.Same(w, v) || !slices.Equal(path, []string{"a", "b", "behind"}) || !behind(w) {
			t.Fatalf("changed: %s is %s now", show(v), show(w))
		}
	}
}

// behind tells whether what stands behind the lists of a walled value is as it was.
func behind(v api.Value) bool {
	if v.Terms[:len(v.Terms)+1][len(v.Terms)].Kind != 78 {
		return false
	}
	for _, s := range v.Terms {
		if f := s.Fields[:len(s.Fields)+1][len(s.Fields)]; f.Name != "behind" || len(f.V.Terms) != 1 || f.V.Terms[0].Kind != 78 {
			return false
		}
		for _, f := range s.Fields {
			if !behind(f.V) {
				return false
			}
		}
	}
	return true
}

// R1: all calls end, however great, deep or odd a value is, also one that holds itself.
func TestEnds(t *testing.T) {
	self := value(closed(field("a", yes)))
	self.Terms[0].Fields[0].V = self
	twice := value(yes)
	for range 40 {
		twice = value(closed(api.Field{Name: "a", V: twice}, api.Field{Name: "b", V: twice}))
	}
	odd := api.Term{Kind: math.MinInt, Lo: math.MinInt, Hi: math.MaxInt, Text: strings.Repeat("x", 1<<16), Any: true, Maybe: true, Open: true, Fields: fields(900, all)}
	for _, v := range []api.Value{self, twice, value(odd), nested(1<<14, yes), value(slices.Repeat([]api.Term{closed(fields(32, row(300)...)...)}, 600)...)} {
		if _, e := fact.One(v); e != api.ErrArg || fact.Settled(v) || fact.Ready(v) || fact.Waits(v) || fact.Refines(v, v) {
			t.Errorf("facts of what is not right: %d", e)
		}
		if got, e := fact.Pick(v, slices.Repeat([]string{"a"}, 1<<16)...); e != api.ErrArg || len(got.Terms) != 0 {
			t.Errorf("Pick of what is not right: %d", e)
		}
	}
}
