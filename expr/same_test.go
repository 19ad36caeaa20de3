package expr_test

import (
	"slices"
	"testing"

	"treillage/api"
	"treillage/expr"
)

// 13.2: two expressions are the same just if all fields are, of all sorts of expressions, right or not.
func TestSame(t *testing.T) {
	l := all()
	var spellings []string
	for _, e := range l {
		spellings = append(spellings, spelt(e))
	}
	alike := 0
	for i, a := range l {
		for j, b := range l {
			want := spellings[i] == spellings[j]
			if expr.Same(a, b) != want {
				t.Fatalf("Same: %v of %s and %s", !want, show(a), show(b))
			}
			if want && i != j {
				alike++
			}
		}
	}
	if alike < 50 {
		t.Errorf("only %d are the same", alike)
	}
}

// 13.2: expressions that differ in one field, however far down, also in a field that their operation does not name.
func TestSameFieldByField(t *testing.T) {
	for _, s := range append(sorts(), struct {
		e     api.Expr
		named string
	}{e: api.Expr{Op: 77}}) {
		for _, x := range append(turns(), turns()[0]) {
			a, b := s.e, s.e
			x.turn(&b)
			want := spelt(a) == spelt(b)
			for n := range 24 {
				if expr.Same(nested(n, a), nested(n, b)) != want || expr.Same(nested(n, b), nested(n, a)) != want || !expr.Same(nested(n, b), nested(n, b)) {
					t.Errorf("Same, %d deep: %v of %s and %s", n, !want, show(a), show(b))
				}
			}
			c := a
			c.Op++
			if expr.Same(nested(9, a), nested(9, c)) || expr.Same(nested(3, a), nested(4, a)) {
				t.Errorf("Same: true of another operation, or another depth: %s", show(a))
			}
		}
	}
}

// 13.2: lists that begin with the same, and such as differ in the names or in the order of their pairs; also where they are no parts.
func TestSameLists(t *testing.T) {
	one, two := number(1), number(2)
	for _, c := range [][2]api.Expr{
		{ref("a"), ref("a", "b")}, {ref("a", "b"), ref("b", "a")}, {ref("ab"), ref("a", "b")}, {ref(), ref("")},
		{record(), record(pair("", api.Expr{}))}, {record(pair("a", one)), record(pair("b", one))}, {record(pair("a", one)), record(pair("a", two))}, {record(pair("a", one), pair("b", two)), record(pair("b", two), pair("a", one))}, {record(pairs(3, one)...), record(pairs(4, one)...)},
		{kids(11, one, two), kids(11, two, one)}, {kids(11, one, one), kids(11, one, one, one)}, {op(11), kids(11, api.Expr{})}, {kids(13, one, two), kids(14, one, two)},
		{api.Expr{Op: 11, Pairs: pairs(1, one)}, {Op: 11, Pairs: pairs(1, two)}}, {api.Expr{Op: 10, Kids: many(1, one)}, {Op: 10, Kids: many(1, two)}},
		{record(pair("a", record(pair("b", with(one, one))))), record(pair("a", record(pair("b", with(one, two)))))},
	} {
		if expr.Same(c[0], c[1]) || expr.Same(c[1], c[0]) || !expr.Same(c[0], c[0]) || !expr.Same(c[1], c[1]) {
			t.Errorf("Same of %s and %s", show(c[0]), show(c[1]))
		}
	}
	// What lies behind a list's length is not looked at.
	l, m, p := []api.Expr{one, two}, []api.Pair{pair("a", one), pair("b", two)}, []string{"a", "b"}
	if !expr.Same(kids(11, l[:1]...), kids(11, one)) || !expr.Same(record(m[:1]...), record(pair("a", one))) || !expr.Same(ref(p[:1]...), ref("a")) {
		t.Errorf("what lies behind a list is looked at")
	}
}

// deepCopy is a copy with lists that have room behind their ends.
func deepCopy(e api.Expr) api.Expr {
	e.Path = append(make([]string, 0, len(e.Path)+1), e.Path...)
	e.Pairs = append(make([]api.Pair, 0, len(e.Pairs)+1), e.Pairs...)
	e.Kids = append(make([]api.Expr, 0, len(e.Kids)+1), e.Kids...)
	for i, p := range e.Pairs {
		e.Pairs[i].E = deepCopy(p.E)
	}
	for i, k := range e.Kids {
		e.Kids[i] = deepCopy(k)
	}
	return e
}

// spoil writes over all that an expression's lists reach, up to their capacities.
func spoil(e api.Expr) {
	for _, p := range e.Pairs {
		spoil(p.E)
	}
	for _, k := range e.Kids {
		spoil(k)
	}
	path, pairs, kids := e.Path[:cap(e.Path)], e.Pairs[:cap(e.Pairs)], e.Kids[:cap(e.Kids)]
	for i := range path {
		path[i] = "spoilt"
	}
	for i := range pairs {
		pairs[i] = api.Pair{Name: "spoilt"}
	}
	for i := range kids {
		kids[i] = api.Expr{Op: 77}
	}
}

// 13.2: a copy is the same, right or not, and shares no memory with what was copied, nor with another copy.
func TestCopy(t *testing.T) {
	for _, e := range all() {
		given, want := deepCopy(e), spelt(e)
		c, d := expr.Copy(given), expr.Copy(given)
		if spelt(c) != want || spelt(given) != want {
			t.Fatalf("Copy: %s, of %s", show(c), show(e))
		}
		spoil(c)
		if spelt(given) != want || spelt(d) != want {
			t.Fatalf("Copy shares memory, of %s", show(e))
		}
		c = expr.Copy(given)
		spoil(given)
		if spelt(c) != want || spelt(d) != want {
			t.Fatalf("the copy is changed with what was copied, of %s", show(e))
		}
	}
}

// 13.2, R5: no two lists of a copy share memory, not even where those of what was copied do; what lies behind a list is not handed out.
func TestCopyOfShared(t *testing.T) {
	shared := []api.Expr{ref("a", "b"), record(pair("x", number(3)))}
	given := kids(12, kids(11, shared...), kids(11, shared...), record(pair("k", kids(13, shared...))))
	want, inner := spelt(given), spelt(kids(11, shared...))
	for i := range 2 {
		c := expr.Copy(given)
		spoil(c.Kids[i])
		if spelt(c.Kids[1-i]) != inner || spelt(given) != want {
			t.Errorf("two lists of a copy share memory")
		}
	}
	l := []api.Expr{number(1), number(2), number(3)}
	c := expr.Copy(kids(11, l[:2]...))
	spoil(c)
	if len(c.Kids) != 2 || !slices.EqualFunc(l, []api.Expr{number(1), number(2), number(3)}, same) {
		t.Errorf("what lies behind a list is changed: %v", l)
	}
}

// R5: what is handed in is not changed.
func TestNothingIsChanged(t *testing.T) {
	for _, e := range all() {
		e = deepCopy(e)
		was := spelt(e)
		expr.Right(e)
		expr.Check(e)
		expr.Size(e)
		expr.Depth(e)
		expr.Refs(e)
		expr.Same(e, nested(1, e))
		for range expr.Walk(e) {
		}
		if spelt(e) != was {
			t.Fatalf("changed: %s", show(e))
		}
	}
}
