package lat_test

import (
	"slices"
	"testing"

	"treillage/api"
	"treillage/lat"
	"treillage/rank"
)

// laws are values that are small enough for all that comes of three of them not to be too wide.
func laws() []api.Value {
	l := some()
	for i := range 200 {
		v := rolled(new(dice(7777+i)), 2)
		if rank.Weight(v) < 9 && !slices.ContainsFunc(l, func(w api.Value) bool { return rank.Same(v, w) }) {
			l = append(l, v)
		}
	}
	return slices.DeleteFunc(l, func(v api.Value) bool { return rank.Weight(v) > 8 })
}

// meet is the meet of two values, which is right.
func meet(t *testing.T, a, b api.Value) api.Value {
	t.Helper()
	return good(t, "Meet", a, b, lat.Meet)
}

// join is the join of two values, which is right.
func join(t *testing.T, a, b api.Value) api.Value {
	t.Helper()
	return good(t, "Join", a, b, lat.Join)
}

// good is what comes of two values, which is right.
func good(t *testing.T, what string, a, b api.Value, call func(a, b api.Value) (api.Value, api.Errno)) api.Value {
	t.Helper()
	v, e := call(a, b)
	if e != api.OK || !lat.Right(v) || !modelRight(v) {
		t.Fatalf("%s of %s and %s: %s %d", what, show(a), show(b), show(v), e)
	}
	return v
}

// alike fails, if two values are not the same.
func alike(t *testing.T, law string, a, b api.Value) {
	t.Helper()
	if !rank.Same(a, b) {
		t.Errorf("%s: %s and %s", law, show(a), show(b))
	}
}

// 9.3: of each two values: the order does not tell, each of meet and join goes over the other one, the meet is below both, both are below the join, and one is below the other one just if their meet is that one.
func TestLawsOfTwo(t *testing.T) {
	belows := 0
	for _, a := range laws() {
		alike(t, "meet with itself", meet(t, a, a), a)
		alike(t, "join with itself", join(t, a, a), a)
		for _, b := range laws() {
			m, j := meet(t, a, b), join(t, a, b)
			alike(t, "meet, turned round", m, meet(t, b, a))
			alike(t, "join, turned round", j, join(t, b, a))
			alike(t, "meet with the join", meet(t, a, j), a)
			alike(t, "join with the meet", join(t, a, m), a)
			if !lat.Below(m, a) || !lat.Below(m, b) || !lat.Below(a, j) || !lat.Below(b, j) {
				t.Errorf("the meet and the join of %s and %s are not below and above both", show(a), show(b))
			}
			below := lat.Below(a, b)
			if below != rank.Same(m, a) || below != rank.Same(j, b) {
				t.Errorf("Below: %v of %s and %s", below, show(a), show(b))
			}
			if below && lat.Below(b, a) != rank.Same(a, b) {
				t.Errorf("%s and %s are below one another", show(a), show(b))
			}
			if below {
				belows++
			}
		}
	}
	if belows < 300 {
		t.Errorf("only %d are below", belows)
	}
}

// 9.3: of each three values: it does not tell which are met or joined first; meet and join are shared out over one another; what is below both is below the meet, what is above both is above the join.
func TestLawsOfThree(t *testing.T) {
	l := laws()
	d := new(dice(1))
	for range 8000 {
		a, b, c := l[d.roll(len(l))], l[d.roll(len(l))], l[d.roll(len(l))]
		alike(t, "three meets", meet(t, meet(t, a, b), c), meet(t, a, meet(t, b, c)))
		alike(t, "three joins", join(t, join(t, a, b), c), join(t, a, join(t, b, c)))
		alike(t, "meet over join", meet(t, a, join(t, b, c)), join(t, meet(t, a, b), meet(t, a, c)))
		alike(t, "join over meet", join(t, a, meet(t, b, c)), meet(t, join(t, a, b), join(t, a, c)))
		if (lat.Below(c, a) && lat.Below(c, b)) != lat.Below(c, meet(t, a, b)) {
			t.Errorf("%s is below the meet of %s and %s, or below both, alone", show(c), show(a), show(b))
		}
		if (lat.Below(a, c) && lat.Below(b, c)) != lat.Below(join(t, a, b), c) {
			t.Errorf("%s is above the join of %s and %s, or above both, alone", show(c), show(a), show(b))
		}
		if lat.Below(a, b) && lat.Below(b, c) && !lat.Below(a, c) {
			t.Errorf("%s, %s and %s: Below does not go on", show(a), show(b), show(c))
		}
	}
}

// 9.3: a value is the join of its terms; what Of and Struct make is right.
func TestLawsOfTerms(t *testing.T) {
	for _, v := range laws() {
		sum := lat.None()
		for _, s := range v.Terms {
			one, e := lat.Of(s)
			is(t, "Of one term", one, e, value(s), api.OK)
			sum = join(t, one, sum)
			f, e := lat.Struct(true, []api.Field{{Name: "a", V: one}, {Name: "b", V: v}})
			if e != api.OK || !lat.Right(f) || !lat.Right(one) {
				t.Errorf("Struct or Of: %s %d", show(f), e)
			}
		}
		alike(t, "the join of the terms", sum, v)
	}
}

// lists are where the elements of a value's lists stand.
func lists(v api.Value) (terms []*api.Term, fields []*api.Field) {
	for i, s := range v.Terms {
		terms = append(terms, &v.Terms[i])
		for j, f := range s.Fields {
			fields = append(fields, &s.Fields[j])
			t, g := lists(f.V)
			terms, fields = append(terms, t...), append(fields, g...)
		}
	}
	return terms, fields
}

// apart tells whether no two lists of some values have an element in one place.
func apart(l ...api.Value) bool {
	terms, fields := map[*api.Term]bool{}, map[*api.Field]bool{}
	for _, v := range l {
		t, f := lists(v)
		for _, p := range t {
			if terms[p] {
				return false
			}
			terms[p] = true
		}
		for _, p := range f {
			if fields[p] {
				return false
			}
			fields[p] = true
		}
	}
	return true
}

// foreign is a term that stands behind lists' lengths, where nobody may look.
var foreign = api.Term{Kind: 77, Fields: []api.Field{{Name: "behind"}}}

// walled is a copy of a value, with something foreign behind the length of each list.
func walled(v api.Value) api.Value {
	terms := make([]api.Term, 0, len(v.Terms)+1)
	for _, s := range v.Terms {
		fields := make([]api.Field, 0, len(s.Fields)+1)
		for _, f := range s.Fields {
			fields = append(fields, api.Field{Name: f.Name, V: walled(f.V)})
		}
		s.Fields = append(fields, api.Field{Name: "behind", V: value(foreign)})[:len(fields)]
		terms = append(terms, s)
	}
	return api.Value{Terms: append(terms, foreign)[:len(terms)]}
}

// kept tells whether a value that was walled is the same as it was, and so is what stands behind its lists.
func kept(v, was api.Value) bool {
	behind := v.Terms[:len(v.Terms)+1][len(v.Terms)]
	if len(v.Terms) != len(was.Terms) || behind.Kind != 77 || behind.Fields[0].Name != "behind" {
		return false
	}
	for i, s := range v.Terms {
		last := s.Fields[:len(s.Fields)+1][len(s.Fields)]
		if last.Name != "behind" || len(last.V.Terms) != 1 || len(s.Fields) != len(was.Terms[i].Fields) {
			return false
		}
		for j, f := range s.Fields {
			if !kept(f.V, was.Terms[i].Fields[j].V) {
				return false
			}
		}
	}
	return rank.Same(v, was)
}

// R5: what is handed in is not changed, what is answered shares nothing with it, and no two lists of it are one.
func TestMemory(t *testing.T) {
	d := new(dice(5))
	pairs := [][2]api.Value{{value(all), value(open(field("a", closed(field("b", yes)))))}, {value(open(field("a", yes)), open(field("b", yes))), value(open(field("c", open(field("d", no)))))}, {value(number(3, 3), number(9, 9)), value(number(1, 1), number(9, 9))}}
	for range 400 {
		pairs = append(pairs, [2]api.Value{rolled(d, 3), rolled(d, 3)})
	}
	for _, p := range pairs {
		a, b := walled(p[0]), walled(p[1])
		m, _ := lat.Meet(a, b)
		j, _ := lat.Join(a, b)
		o, _ := lat.Of(slices.Concat(a.Terms, b.Terms, a.Terms)...)
		s, _ := lat.Struct(true, []api.Field{{Name: "a", V: a}, {Name: "b", V: a}, {Name: "c", V: b}})
		lat.Right(a)
		lat.Below(a, b)
		if !kept(a, p[0]) || !kept(b, p[1]) {
			t.Fatalf("%s or %s was changed", show(p[0]), show(p[1]))
		}
		if !apart(a, b, m, j, o, s) {
			t.Fatalf("of %s and %s lists are shared", show(p[0]), show(p[1]))
		}
		for _, v := range []api.Value{m, j, o, s} {
			for _, f := range v.Terms[:cap(v.Terms)] {
				if f.Kind == 77 {
					t.Fatalf("what stands behind a list was handed out")
				}
			}
		}
	}
}

// R5: the terms that Of is handed stay in their order, and so do a struct's fields.
func TestMemoryOf(t *testing.T) {
	l := []api.Term{text("b"), number(5, 5), text("a"), number(1, 9), no, foreign}
	if v, e := lat.Of(l[:5]...); e != api.OK || len(v.Terms) != 4 {
		t.Errorf("Of: %s %d", show(v), e)
	}
	for i, want := range []api.Term{text("b"), number(5, 5), text("a"), number(1, 9), no, foreign} {
		if rank.Terms(l[i], want) != 0 {
			t.Errorf("Of changed the term at %d: %v", i, l[i])
		}
	}
	f := []api.Field{field("a", yes), field("b", number(1, 9)), field("z", foreign)}
	v, e := lat.Struct(false, f[:2])
	is(t, "Struct", v, e, value(closed(field("a", yes), field("b", number(1, 9)))), api.OK)
	v.Terms[0].Fields[0].Name, v.Terms[0].Fields[1].V.Terms[0] = "x", all
	if f[0].Name != "a" || f[1].V.Terms[0].Kind != 2 || f[2].Name != "z" || len(f[2].V.Terms) != 1 {
		t.Errorf("Struct changed its fields: %v", f)
	}
}
