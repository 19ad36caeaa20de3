package scalar_test

import (
	"math"
	"slices"
	"strconv"
	"strings"
	"testing"

	"treillage/api"
	"treillage/scalar"
)

const top = 1 << 53

// number are the numbers from lo to hi.
func number(lo, hi int) api.Term { return api.Term{Kind: 2, Lo: lo, Hi: hi} }

// text is just a text.
func text(s string) api.Term { return api.Term{Kind: 3, Text: s} }

// maybe is a term with Maybe, right or not.
func maybe(t api.Term) api.Term {
	t.Maybe = true
	return t
}

// The scalars that are all of a kind or one thing of KBool, and any text, field by field.
var (
	no      = api.Term{Kind: 1}
	yes     = api.Term{Kind: 1, Lo: 1, Hi: 1}
	both    = api.Term{Kind: 1, Hi: 1}
	numbers = api.Term{Kind: 2, Lo: -top, Hi: top}
	anyText = api.Term{Kind: 3, Any: true}
	zero    = api.Term{}
)

// alike tells whether two terms are the same, field by field, right or not. A nil list and an empty one are the same.
func alike(a, b api.Term) bool {
	return a.Kind == b.Kind && a.Lo == b.Lo && a.Hi == b.Hi && a.Text == b.Text && a.Any == b.Any && a.Maybe == b.Maybe && a.Open == b.Open &&
		slices.EqualFunc(a.Fields, b.Fields, func(x, y api.Field) bool {
			return x.Name == y.Name && slices.EqualFunc(x.V.Terms, y.V.Terms, alike)
		})
}

// some are right scalars of all sorts, all unlike.
func some() []api.Term {
	return []api.Term{
		no, yes, both, maybe(both),
		number(0, 0), number(1, 1), number(-1, -1), number(0, 1), maybe(number(0, 1)), number(1, 9), maybe(number(1, 9)), number(5, 20), maybe(number(5, 20)), number(9, 10),
		number(top, top), number(-top, -top), number(top-1, top), number(-top, 0), maybe(number(-top, 0)), number(0, top), numbers, maybe(numbers),
		text(""), text("a"), text("b"), text("ab"), text("\x00"), text("\xff\xfe"), text("é\n"), text(strings.Repeat("x", 255)), text(strings.Repeat("x", 256)), anyText, maybe(anyText),
	}
}

// wrong are terms that are not right: each but for one thing.
func wrong() []api.Term {
	inner := []api.Field{{Name: "a", V: api.Value{Terms: []api.Term{yes}}}}
	l := []api.Term{
		zero, {Kind: 4}, {Kind: 4, Open: true}, {Kind: 4, Fields: inner}, {Kind: 5}, {Kind: 6}, {Kind: -1}, {Kind: 0, Hi: 1}, {Kind: math.MaxInt}, {Kind: math.MinInt, Any: true}, maybe(zero), maybe(api.Term{Kind: 5}),
		{Kind: 1, Lo: 1}, {Kind: 1, Hi: 2}, {Kind: 1, Lo: 2, Hi: 2}, {Kind: 1, Lo: -1}, {Kind: 1, Lo: -1, Hi: -1}, {Kind: 1, Lo: -1, Hi: 1}, maybe(no), maybe(yes),
		number(1, 0), number(top, -top), number(top, top+1), number(top+1, top+1), number(-top-1, 0), number(-top-1, top), number(-top-1, -top-1), number(math.MinInt, math.MaxInt), number(math.MaxInt, math.MinInt), number(math.MinInt, math.MinInt), maybe(number(3, 3)), maybe(number(0, 0)), maybe(number(2, 1)),
		text(strings.Repeat("x", 257)), text(strings.Repeat("é", 129)), text(strings.Repeat("x", 1<<16)), {Kind: 3, Text: "a", Any: true}, maybe(text("")), maybe(text("a")), maybe(api.Term{Kind: 3, Text: "a", Any: true}),
	}
	for _, t := range some() {
		for _, spoil := range []func(*api.Term){
			func(t *api.Term) { t.Open = true },
			func(t *api.Term) { t.Fields = inner },
			func(t *api.Term) { t.Fields = make([]api.Field, 1) },
			func(t *api.Term) { t.Kind = 4 },
			func(t *api.Term) { t.Kind = 5 },
			func(t *api.Term) { t.Kind = 0 },
			func(t *api.Term) { t.Kind += 256 },
		} {
			spoilt := t
			spoil(&spoilt)
			l = append(l, spoilt)
		}
		if t.Kind != 3 {
			s, a := t, t
			s.Text, a.Any = "a", true
			l = append(l, s, a)
		} else {
			lo, hi, one := t, t, t
			lo.Lo, hi.Hi, one.Lo, one.Hi = -1, 1, 1, 1
			l = append(l, lo, hi, one)
		}
	}
	return l
}

// right tells whether a term is right by the chapter's words, and atom whether it is one thing.
func right(t api.Term) (right, atom bool) {
	if t.Open || len(t.Fields) != 0 {
		return false, false
	}
	switch t.Kind {
	case 1:
		right = (t.Lo == 0 && t.Hi == 0 || t.Lo == 1 && t.Hi == 1 || t.Lo == 0 && t.Hi == 1) && t.Text == "" && !t.Any
		atom = t.Lo == t.Hi
	case 2:
		right = t.Lo <= t.Hi && t.Lo >= -top && t.Hi <= top && t.Text == "" && !t.Any
		atom = t.Lo == t.Hi
	case 3:
		right = len(t.Text) <= 256 && (!t.Any || t.Text == "") && t.Lo == 0 && t.Hi == 0
		atom = !t.Any
	}
	right = right && !(atom && t.Maybe)
	return right, right && atom
}

// 7.1: terms that are right, and those of them that are one thing, written out.
func TestRightByHand(t *testing.T) {
	atoms := 0
	for i, s := range some() {
		if !scalar.Right(s) {
			t.Errorf("Right(%v): false", s)
		}
		if scalar.Atom(s) {
			atoms++
		}
		for j, other := range some() {
			if alike(s, other) != (i == j) {
				t.Errorf("%v and %v are alike", s, other)
			}
		}
	}
	if atoms != 2+5+9 {
		t.Errorf("%d atoms", atoms)
	}
	for _, s := range []api.Term{no, yes, number(0, 0), number(-7, -7), number(top, top), number(-top, -top), text(""), text("a"), text("\xff"), text(strings.Repeat("\x00", 256)), text(strings.Repeat("é", 128))} {
		if !scalar.Right(s) || !scalar.Atom(s) {
			t.Errorf("Right(%v): %v, Atom: %v", s, scalar.Right(s), scalar.Atom(s))
		}
	}
	for _, s := range []api.Term{both, number(0, 1), number(-1, 0), number(top-1, top), numbers, anyText} {
		if !scalar.Right(s) || !scalar.Right(maybe(s)) || scalar.Atom(s) || scalar.Atom(maybe(s)) {
			t.Errorf("%v, with and without Maybe, is right, and no atom", s)
		}
	}
}

// 7.1: terms that are not right are no atoms either.
func TestWrongByHand(t *testing.T) {
	for _, s := range wrong() {
		if scalar.Right(s) || scalar.Atom(s) {
			t.Errorf("Right(%.80v): %v, Atom: %v", s, scalar.Right(s), scalar.Atom(s))
		}
	}
}

// 7.1: a list of fields that is empty is as good as none, whatever lies behind its length.
func TestEmptyFields(t *testing.T) {
	for _, s := range some() {
		for _, l := range [][]api.Field{{}, make([]api.Field, 0, 3), []api.Field{{Name: "a"}}[:0]} {
			e := s
			e.Fields = l
			if !scalar.Right(e) || scalar.Atom(e) != scalar.Atom(s) || !scalar.Same(e, s) || !scalar.Same(s, e) || !scalar.Below(e, s) || !scalar.Below(s, e) {
				t.Errorf("%v is not the same with an empty list", s)
			}
		}
	}
}

// 7.1: all terms out of parts at which something changes.
func TestRight(t *testing.T) {
	edges := []int{math.MinInt, -top - 1, -top, -2, -1, 0, 1, 2, top, top + 1, math.MaxInt}
	for _, kind := range []int{math.MinInt, -1, 0, 1, 2, 3, 4, 5, 6, 257, math.MaxInt} {
		for _, lo := range edges {
			for _, hi := range edges {
				for _, s := range []string{"", "a", strings.Repeat("a", 256), strings.Repeat("a", 257)} {
					for bits := range 16 {
						x := api.Term{Kind: kind, Lo: lo, Hi: hi, Text: s, Any: bits&1 != 0, Maybe: bits&2 != 0, Open: bits&4 != 0}
						if bits&8 != 0 {
							x.Fields = make([]api.Field, 1)
						}
						r, a := right(x)
						if scalar.Right(x) != r || scalar.Atom(x) != a || scalar.Same(x, x) != r {
							t.Fatalf("%.80v: Right %v, Atom %v, Same as itself %v; asked %v %v", x, scalar.Right(x), scalar.Atom(x), scalar.Same(x, x), r, a)
						}
					}
				}
			}
		}
	}
}

// 7.1: right ones are the same as themselves alone; those that are not right as none.
func TestSame(t *testing.T) {
	all := append(some(), wrong()...)
	for i, a := range all {
		for j, b := range all {
			if scalar.Same(a, b) != (i == j && i < len(some())) {
				t.Errorf("Same(%.80v, %.80v): %v", a, b, scalar.Same(a, b))
			}
		}
	}
	for _, c := range [][2]api.Term{{no, number(0, 0)}, {no, text("")}, {both, number(0, 1)}, {number(1, 3), number(1, 2)}, {number(1, 3), number(2, 3)}, {text("a"), text("b")}, {anyText, text("")}, {both, maybe(both)}} {
		if scalar.Same(c[0], c[1]) || scalar.Same(c[1], c[0]) {
			t.Errorf("%v and %v are the same", c[0], c[1])
		}
	}
}

// 7.1: all of each kind; nothing of what is no kind, or has no scalars.
func TestWhole(t *testing.T) {
	for kind, want := range map[int]api.Term{api.KBool: both, api.KInt: numbers, api.KText: anyText} {
		if s, ok := scalar.Whole(kind); !ok || !alike(s, want) {
			t.Errorf("Whole(%d): %v %v", kind, s, ok)
		}
	}
	for _, kind := range []int{0, -1, -2, api.KStruct, api.KAny, 6, 257, 258, 259, math.MaxInt, math.MinInt} {
		if s, ok := scalar.Whole(kind); ok || !alike(s, zero) {
			t.Errorf("Whole(%d): %v %v", kind, s, ok)
		}
	}
}

// 7.1: both booleans.
func TestTruth(t *testing.T) {
	if s := scalar.Truth(true); !alike(s, yes) {
		t.Errorf("Truth(true): %v", s)
	}
	if s := scalar.Truth(false); !alike(s, no) {
		t.Errorf("Truth(false): %v", s)
	}
}

// 7.1: the numbers from one to another one, if both are of the language, and the first is not above the second.
func TestBetween(t *testing.T) {
	edges := []int{math.MinInt, math.MinInt + 1, -top - 1, -top, -top + 1, -1, 0, 1, 7, top - 1, top, top + 1, math.MaxInt - 1, math.MaxInt}
	for i, lo := range edges {
		for j, hi := range edges {
			want, asked := zero, i <= j && i >= 3 && j <= 10
			if asked {
				want = api.Term{Kind: api.KInt, Lo: lo, Hi: hi}
			}
			if s, ok := scalar.Between(lo, hi); ok != asked || !alike(s, want) {
				t.Errorf("Between(%d, %d): %v %v", lo, hi, s, ok)
			}
		}
	}
}

// 7.1: texts up to the greatest length, in bytes, whatever they are.
func TestText(t *testing.T) {
	for _, s := range []string{"", "a", "any", "\x00", "\xff\xfe", "é\n", strings.Repeat("x", 255), strings.Repeat("x", 256), strings.Repeat("é", 128), strings.Repeat("\xff", 256)} {
		if x, ok := scalar.Text(s); !ok || !alike(x, api.Term{Kind: api.KText, Text: s}) {
			t.Errorf("Text(%.20q): %.80v %v", s, x, ok)
		}
	}
	for _, s := range []string{strings.Repeat("x", 257), strings.Repeat("é", 129), strings.Repeat("€", 86), strings.Repeat("\x00", 257), strings.Repeat("x", 1<<20)} {
		if x, ok := scalar.Text(s); ok || !alike(x, zero) {
			t.Errorf("Text(%.20q): %.80v %v", s, x, ok)
		}
	}
}

// 7.1: what is right and no atom gets Maybe, all else stays as it is.
func TestLater(t *testing.T) {
	for _, c := range [][2]api.Term{
		{both, {Kind: 1, Hi: 1, Maybe: true}}, {number(1, 2), {Kind: 2, Lo: 1, Hi: 2, Maybe: true}}, {numbers, {Kind: 2, Lo: -top, Hi: top, Maybe: true}}, {anyText, {Kind: 3, Any: true, Maybe: true}},
		{maybe(both), maybe(both)}, {maybe(number(1, 2)), maybe(number(1, 2))}, {maybe(anyText), maybe(anyText)},
		{no, no}, {yes, yes}, {number(4, 4), number(4, 4)}, {text(""), text("")}, {text("a"), text("a")},
		{zero, zero}, {{Kind: 5}, {Kind: 5}}, {number(2, 1), number(2, 1)}, {{Kind: 4, Open: true}, {Kind: 4, Open: true}},
	} {
		if s := scalar.Later(c[0]); !alike(s, c[1]) {
			t.Errorf("Later(%v): %v", c[0], s)
		}
	}
	for _, s := range some() {
		want := s
		want.Maybe = !scalar.Atom(s)
		if l := scalar.Later(s); !alike(l, want) || !scalar.Right(l) || !alike(scalar.Later(l), l) {
			t.Errorf("Later(%v): %v", s, l)
		}
	}
	for _, s := range wrong() {
		if l := scalar.Later(s); !alike(l, s) {
			t.Errorf("Later(%.80v): %.80v", s, l)
		}
	}
}

// deep is a term that is not right, of fields within fields.
func deep() api.Term {
	inner := api.Term{Kind: 4, Fields: []api.Field{{Name: "c", V: api.Value{Terms: []api.Term{number(1, 2), text("x")}}}, {Name: "d"}}}
	return api.Term{Kind: 4, Open: true, Fields: []api.Field{{Name: "a", V: api.Value{Terms: []api.Term{yes, inner}}}, {Name: "b", V: api.Value{Terms: []api.Term{inner}}}}}
}

// spoil writes over all that a term's lists reach, up to their capacities.
func spoil(t api.Term) {
	_ = append(t.Fields, api.Field{Name: "spoilt"})
	l := t.Fields[:cap(t.Fields)]
	for i := range l {
		terms := l[i].V.Terms
		_ = append(terms, text("spoilt"))
		for j := range terms[:cap(terms)] {
			spoil(terms[:cap(terms)][j])
			terms[:cap(terms)][j] = text("spoilt")
		}
		l[i] = api.Field{Name: "spoilt"}
	}
}

// 7.1, R5: what Later answers of a term that is not right is new memory, and what lies behind a list's length isn't handed out.
func TestLaterIsNewMemory(t *testing.T) {
	asked, answered := deep(), scalar.Later(deep())
	if !alike(answered, asked) {
		t.Fatalf("Later: %v", answered)
	}
	given := deep()
	spoil(scalar.Later(given))
	if !alike(given, asked) {
		t.Errorf("what was handed in is changed: %v", given)
	}
	answered = scalar.Later(given)
	spoil(given)
	if !alike(answered, asked) {
		t.Errorf("what was answered is changed: %v", answered)
	}
	answered = scalar.Later(deep()) // of which two fields have the same list
	answered.Fields[0].V.Terms[1].Fields[0].V.Terms[0] = text("spoilt")
	answered.Fields[0].V.Terms[1].Fields[1].Name = "spoilt"
	if !alike(answered.Fields[1].V.Terms[0], asked.Fields[1].V.Terms[0]) {
		t.Errorf("two lists of an answer share memory: %v", answered)
	}
	for _, s := range append(some(), deep()) {
		behind := []api.Field{{Name: "a"}, {Name: "b"}, {Name: "c"}}
		s.Fields = behind[:len(s.Fields)]
		spoil(scalar.Later(s))
		if m, ok := scalar.Meet(s, s); ok {
			spoil(m)
		}
		if behind[0].Name != "a" || behind[1].Name != "b" || behind[2].Name != "c" {
			t.Errorf("%v: what was handed in is changed: %v", s, behind)
		}
	}
}

// 7.1, R1: a term that is not right may be deep.
func TestLaterOfDeepFields(t *testing.T) {
	s := yes
	for range 1 << 14 {
		s = api.Term{Kind: 4, Fields: []api.Field{{Name: "a", V: api.Value{Terms: []api.Term{s}}}}}
	}
	l := scalar.Later(s)
	for range 1 << 14 {
		l = l.Fields[0].V.Terms[0]
	}
	if !alike(l, yes) {
		t.Errorf("%v", l)
	}
}

// 7.2: meets written out, in both orders; a zero term: there is none.
func TestMeetByHand(t *testing.T) {
	x256, x257 := text(strings.Repeat("x", 256)), text(strings.Repeat("x", 257))
	for _, c := range [][3]api.Term{
		// Of unlike kinds there is none.
		{no, number(0, 0), zero}, {both, number(0, 1), zero}, {no, text(""), zero}, {number(0, 0), text(""), zero}, {both, anyText, zero}, {numbers, anyText, zero}, {maybe(numbers), maybe(anyText), zero}, {maybe(both), maybe(numbers), zero},
		// Booleans.
		{no, no, no}, {yes, yes, yes}, {no, yes, zero}, {both, no, no}, {both, yes, yes}, {both, both, both}, {maybe(both), both, maybe(both)}, {maybe(both), maybe(both), maybe(both)}, {maybe(both), no, no}, {maybe(both), yes, yes},
		// Ranges: within one another, over one another, those that only touch, and those that lie apart.
		{number(1, 9), number(5, 20), number(5, 9)}, {number(1, 9), number(3, 4), number(3, 4)}, {number(1, 9), number(1, 4), number(1, 4)}, {number(1, 9), number(4, 9), number(4, 9)}, {number(1, 9), number(1, 9), number(1, 9)},
		{number(1, 5), number(5, 9), number(5, 5)}, {number(1, 5), number(6, 9), zero}, {number(1, 5), number(8, 9), zero}, {number(-9, -1), number(1, 9), zero}, {number(-9, 0), number(0, 9), number(0, 0)}, {number(3, 3), number(3, 3), number(3, 3)}, {number(3, 3), number(4, 4), zero}, {number(3, 3), number(1, 9), number(3, 3)}, {number(-3, -3), number(3, 3), zero},
		{numbers, number(top, top), number(top, top)}, {numbers, number(-top, -top), number(-top, -top)}, {numbers, numbers, numbers}, {number(-top, 0), number(0, top), number(0, 0)}, {number(-top, -1), number(0, top), zero}, {number(-top, 1), number(0, top), number(0, 1)},
		// Ranges with Maybe on one side, on both, and of what comes to an atom.
		{maybe(number(1, 9)), number(5, 20), maybe(number(5, 9))}, {number(1, 9), maybe(number(5, 20)), maybe(number(5, 9))}, {maybe(number(1, 9)), maybe(number(5, 20)), maybe(number(5, 9))},
		{maybe(number(1, 5)), number(5, 9), number(5, 5)}, {number(1, 5), maybe(number(5, 9)), number(5, 5)}, {maybe(number(1, 5)), maybe(number(5, 9)), number(5, 5)}, {maybe(numbers), number(7, 7), number(7, 7)}, {maybe(number(1, 5)), maybe(number(6, 9)), zero}, {maybe(number(1, 5)), number(7, 7), zero},
		// Texts and any text.
		{text("a"), text("a"), text("a")}, {text("a"), text("b"), zero}, {text("a"), text("ab"), zero}, {text(""), text("a"), zero}, {text(""), text(""), text("")}, {text("A"), text("a"), zero}, {text("é"), text("e\u0301"), zero}, {x256, x256, x256},
		{anyText, text("a"), text("a")}, {anyText, text(""), text("")}, {anyText, x256, x256}, {anyText, text("\xff"), text("\xff")}, {anyText, anyText, anyText},
		{maybe(anyText), text("x"), text("x")}, {maybe(anyText), text(""), text("")}, {maybe(anyText), anyText, maybe(anyText)}, {maybe(anyText), maybe(anyText), maybe(anyText)},
		// What is not right meets nothing, not even itself.
		{x257, x257, zero}, {anyText, x257, zero}, {maybe(text("a")), text("a"), zero}, {maybe(text("a")), maybe(text("a")), zero}, {maybe(number(3, 3)), number(3, 3), zero}, {maybe(yes), both, zero}, {maybe(yes), maybe(yes), zero},
		{number(0, top+1), number(0, top), zero}, {number(0, top+1), number(5, 5), zero}, {number(-top-1, 0), numbers, zero}, {number(9, 1), number(1, 9), zero}, {number(9, 1), number(9, 1), zero}, {zero, zero, zero}, {zero, no, zero}, {{Kind: 5}, {Kind: 5}, zero}, {{Kind: 5}, number(1, 2), zero}, {{Kind: 4}, {Kind: 4}, zero}, {{Kind: 3, Text: "a", Any: true}, text("a"), zero}, {{Kind: 1, Hi: 2}, yes, zero},
	} {
		for _, l := range [][2]api.Term{{c[0], c[1]}, {c[1], c[0]}} {
			if m, ok := scalar.Meet(l[0], l[1]); ok != !alike(c[2], zero) || !alike(m, c[2]) {
				t.Errorf("Meet(%.80v, %.80v): %.80v %v, not %v", l[0], l[1], m, ok, c[2])
			}
		}
	}
}

// 7.2: what is not right meets nothing, is below nothing, and nothing is below it.
func TestMeetOfWrong(t *testing.T) {
	all := append(some(), wrong()...)
	for _, a := range wrong() {
		for _, b := range all {
			for _, l := range [][2]api.Term{{a, b}, {b, a}} {
				if m, ok := scalar.Meet(l[0], l[1]); ok || !alike(m, zero) {
					t.Fatalf("Meet(%.80v, %.80v): %.80v", l[0], l[1], m)
				}
				if scalar.Below(l[0], l[1]) {
					t.Fatalf("%.80v is below %.80v", l[0], l[1])
				}
			}
		}
	}
}

// small are all right scalars out of a few things.
func small() []api.Term {
	l := []api.Term{no, yes, both, maybe(both), text(""), text("a"), text("b"), anyText, maybe(anyText)}
	for lo := -3; lo <= 3; lo++ {
		for hi := lo; hi <= 3; hi++ {
			l = append(l, number(lo, hi))
			if lo < hi {
				l = append(l, maybe(number(lo, hi)))
			}
		}
	}
	return l
}

// things are the few things that a small scalar may be.
func things(t api.Term) []string {
	switch {
	case t.Any:
		return []string{"text ", "text a", "text b", "text of another kind"}
	case t.Kind == 3:
		return []string{"text " + t.Text}
	}
	var l []string
	for n := t.Lo; n <= t.Hi; n++ {
		l = append(l, strconv.Itoa(t.Kind)+" "+strconv.Itoa(n))
	}
	return l
}

// 7.2: a meet is what is in both, thing by thing, and known later, if one of both is, and there is more than one thing; below is what has no other things, and is known later or one thing, if the other one is known later.
func TestMeetThingByThing(t *testing.T) {
	for _, a := range small() {
		for _, b := range small() {
			want := slices.DeleteFunc(things(a), func(s string) bool { return !slices.Contains(things(b), s) })
			m, ok := scalar.Meet(a, b)
			if ok != (len(want) > 0) || !ok && !alike(m, zero) {
				t.Errorf("Meet(%v, %v): %v %v", a, b, m, ok)
			}
			if ok && (!scalar.Right(m) || !slices.Equal(things(m), want) || m.Maybe != ((a.Maybe || b.Maybe) && len(want) > 1)) {
				t.Errorf("Meet(%v, %v): %v", a, b, m)
			}
			below := len(want) == len(things(a)) && (a.Maybe || !b.Maybe || len(want) == 1)
			if scalar.Below(a, b) != below {
				t.Errorf("Below(%v, %v): %v", a, b, !below)
			}
		}
	}
}

// 7.2: below, written out, in both directions.
func TestBelowByHand(t *testing.T) {
	for _, c := range []struct {
		a, b     api.Term
		ab, back bool
	}{
		{no, both, true, false}, {yes, both, true, false}, {no, yes, false, false}, {both, both, true, true}, {maybe(both), both, true, false}, {no, maybe(both), true, false}, {maybe(both), maybe(both), true, true},
		{number(3, 4), number(1, 9), true, false}, {number(1, 9), number(1, 9), true, true}, {number(1, 9), number(5, 20), false, false}, {number(1, 4), number(1, 9), true, false}, {number(4, 9), number(1, 9), true, false}, {number(1, 5), number(6, 9), false, false}, {number(3, 3), number(3, 3), true, true}, {number(1, 9), numbers, true, false}, {number(top, top), numbers, true, false}, {number(-top, -top), number(-top, 0), true, false},
		{maybe(number(3, 4)), number(1, 9), true, false}, {number(3, 4), maybe(number(1, 9)), false, false}, {maybe(number(3, 4)), maybe(number(1, 9)), true, false}, {number(3, 3), maybe(number(1, 9)), true, false}, {maybe(number(1, 9)), number(1, 9), true, false}, {maybe(numbers), numbers, true, false},
		{text("a"), anyText, true, false}, {text(""), anyText, true, false}, {text("a"), text("a"), true, true}, {text("a"), text("b"), false, false}, {text("a"), text("ab"), false, false}, {text("a"), maybe(anyText), true, false}, {maybe(anyText), anyText, true, false}, {anyText, anyText, true, true},
		{no, number(0, 0), false, false}, {number(0, 1), both, false, false}, {text(""), number(0, 0), false, false}, {text(""), no, false, false}, {anyText, numbers, false, false},
		{zero, zero, false, false}, {number(2, 1), numbers, false, false}, {maybe(number(3, 3)), maybe(numbers), false, false}, {number(0, top+1), number(0, top+1), false, false}, {number(0, 1), number(0, top+1), false, false}, {number(0, 1), api.Term{Kind: 5}, false, false}, {no, zero, false, false},
	} {
		if scalar.Below(c.a, c.b) != c.ab {
			t.Errorf("Below(%v, %v): %v", c.a, c.b, !c.ab)
		}
		if scalar.Below(c.b, c.a) != c.back {
			t.Errorf("Below(%v, %v): %v", c.b, c.a, !c.back)
		}
	}
}

// 7.3: the order of two is nothing to a meet; with itself each is the same; what is met is below both, and what is below both is below it.
func TestMeetOfTwo(t *testing.T) {
	all := append(append(some(), small()...), wrong()[:40]...)
	for _, a := range all {
		if m, ok := scalar.Meet(a, a); ok != scalar.Right(a) || ok && !scalar.Same(m, a) {
			t.Errorf("Meet of %.80v with itself: %.80v %v", a, m, ok)
		}
		for _, b := range all {
			m, ok := scalar.Meet(a, b)
			if n, other := scalar.Meet(b, a); ok != other || !alike(m, n) {
				t.Errorf("Meet(%.80v, %.80v): %.80v %v, turned round %.80v %v", a, b, m, ok, n, other)
			}
			if ok && (!scalar.Below(m, a) || !scalar.Below(m, b)) {
				t.Errorf("Meet(%.80v, %.80v): %.80v is not below both", a, b, m)
			}
			for _, c := range all {
				if scalar.Below(c, a) && scalar.Below(c, b) && !(ok && scalar.Below(c, m)) {
					t.Fatalf("%.80v is below %.80v and %.80v, and not below %.80v", c, a, b, m)
				}
			}
		}
	}
}

// 7.3: which of three are met first is nothing to what comes.
func TestMeetOfThree(t *testing.T) {
	all := append(append(some(), small()...), wrong()[:40]...)
	for _, a := range all {
		for _, b := range all {
			ab, _ := scalar.Meet(a, b)
			for _, c := range all {
				bc, _ := scalar.Meet(b, c)
				left, ok := scalar.Meet(ab, c)
				if right, other := scalar.Meet(a, bc); ok != other || !alike(left, right) {
					t.Fatalf("%.80v, %.80v, %.80v: %.80v %v, and %.80v %v", a, b, c, left, ok, right, other)
				}
			}
		}
	}
}
