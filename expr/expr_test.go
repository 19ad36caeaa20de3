package expr_test

import (
	"math"
	"slices"
	"strings"
	"testing"

	"treillage/api"
	"treillage/expr"
)

// 13.1: expressions that are right, those at the edges among them, and expressions that are not, each but for one thing.
func TestRightByHand(t *testing.T) {
	for i, e := range rights() {
		if !expr.Right(e) || expr.Check(e) != api.OK {
			t.Errorf("%d: Right false, or Check %d, of %s", i, expr.Check(e), show(e))
		}
	}
	for i, e := range wrongs() {
		if expr.Right(e) || expr.Check(e) != api.ErrArg {
			t.Errorf("%d of those that are not: Right true, or Check %d, of %s", i, expr.Check(e), show(e))
		}
	}
}

// 13.1: of each operation each field that it does not name has to be zero; no operation but the fifteen is one.
func TestRightFieldByField(t *testing.T) {
	for _, s := range sorts() {
		if !expr.Right(s.e) {
			t.Errorf("Right: false of %s", show(s.e))
		}
		for _, x := range turns() {
			e := s.e
			x.turn(&e)
			if !strings.Contains(s.named, x.field) && expr.Right(e) {
				t.Errorf("operation %d with %s: true of %s", s.e.Op, x.field, show(e))
			}
			// What is right but for its operation is right with no other one that names other fields.
			for o := -1; o < 20; o++ {
				e := s.e
				e.Op = o
				if got := expr.Right(e); got != modelRight(e) {
					t.Errorf("Right: %v of %s", got, show(e))
				}
			}
		}
	}
}

// 13.1: what is not right stays so within others, however deep; what is right stays so, too, also where it is too deep.
func TestRightWithin(t *testing.T) {
	for n := range 40 {
		for i, e := range wrongs() {
			if expr.Right(nested(n, e)) {
				t.Fatalf("Right, %d of those that are not, within %d: true of %s", i, n, show(e))
			}
		}
		for i, e := range rights() {
			if !expr.Right(nested(n, e)) {
				t.Fatalf("Right, %d within %d: false of %s", i, n, show(e))
			}
		}
	}
	for at := range 32 {
		l, m := pairs(32, number(1)), many(32, number(1))
		l[at].E.N, m[at].N = 1<<53+1, -1<<53-1
		if expr.Right(record(l...)) || expr.Right(kids(11, m...)) || expr.Right(kids(12, m...)) {
			t.Errorf("Right: true of one that is wrong at %d", at)
		}
	}
}

// modelRight tells by the chapter's words whether an expression is right: it is held against one that has just what its operation names.
func modelRight(e api.Expr) bool {
	just, ok, parts := op(e.Op), false, []api.Expr(nil)
	var l []string
	for _, p := range e.Pairs {
		l = append(l, p.Name)
	}
	in := func(n, least, most int) bool { return least <= n && n <= most }
	switch o := e.Op; {
	case o == 1 || o == 7 || o == 8:
		just.N, ok = e.N, in(e.N, -1<<53, 1<<53)
	case o == 2:
		just.Text, ok = e.Text, len(e.Text) <= 256
	case o == 3:
		just.N, ok = e.N, in(e.N, 0, 1)
	case o == 4:
		just.N, ok = e.N, in(e.N, 1, 3) || e.N == 5
	case o == 5 || o == 6:
		ok = true
	case o == 9:
		just.Path, ok = e.Path, in(len(e.Path), 1, 16) && !slices.ContainsFunc(e.Path, notName)
	case o == 10:
		just.Pairs, just.Open = e.Pairs, e.Open
		ok = len(l) <= 32 && !slices.ContainsFunc(l, notName) && slices.IsSorted(l) && len(slices.Compact(l)) == len(e.Pairs)
		for _, p := range e.Pairs {
			parts = append(parts, p.E)
		}
	case in(o, 11, 15):
		just.Kids, parts = e.Kids, e.Kids
		ok = in(len(e.Kids), 2, 2+30*((15-o)/3))
	}
	return ok && same(e, just) && !slices.ContainsFunc(parts, func(e api.Expr) bool { return !modelRight(e) })
}

// notName tells whether a text is no name, as far as it goes in tests.
func notName(s string) bool {
	const letters, words = "abcdefghijklmnopqrstuvwxyz", " any bool computed false int none resource string true "
	return s == "" || len(s) > 16 || strings.Trim(s, letters+"0123456789_") != "" || strings.Contains(s, ".") || !strings.Contains(letters, s[:1]) || strings.Contains(words, " "+s+" ")
}

// same tells by the chapter's words whether two expressions are the same: what one of them is spelt as, field by field.
func same(a, b api.Expr) bool { return spelt(a) == spelt(b) }

// 13.1: rolled expressions, and what they are turned into, held against the chapter's words.
func TestRightRolled(t *testing.T) {
	wrong := 0
	for i := range 20000 {
		e := rolled(new(dice(i)), 3)
		got := expr.Right(e)
		if got != modelRight(e) {
			t.Fatalf("Right: %v of %v", got, e)
		}
		if !got {
			wrong++
		}
	}
	if wrong < 1000 || wrong > 10000 {
		t.Errorf("%d are not right", wrong)
	}
}

// 13.1: a nil list and an empty one are the same, and what lies behind a list's length is not looked at.
func TestEmptyLists(t *testing.T) {
	path, l, m := []string{"", "A"}, []api.Pair{{}, {}}, []api.Expr{{}, {}}
	for _, s := range sorts() {
		a, b := s.e, s.e
		if a.Op != 9 {
			a.Path, b.Path = []string{}, path[:0]
		}
		if a.Op != 10 {
			a.Pairs, b.Pairs = []api.Pair{}, l[:0]
		}
		if a.Op < 11 {
			a.Kids, b.Kids = []api.Expr{}, m[:0]
		}
		for _, e := range []api.Expr{a, b} {
			if !expr.Right(e) || expr.Check(e) != api.OK || !expr.Same(e, s.e) || !expr.Same(s.e, e) || !expr.Same(nested(9, e), nested(9, s.e)) || !expr.Same(expr.Copy(e), s.e) {
				t.Errorf("empty lists are not as good as none: %s", show(e))
			}
			if expr.Size(e) != expr.Size(s.e) || expr.Depth(e) != expr.Depth(s.e) || len(expr.Refs(e)) != len(expr.Refs(s.e)) {
				t.Errorf("empty lists have parts: %s", show(e))
			}
		}
	}
	empty := record()
	empty.Pairs = l[:0]
	if !expr.Right(empty) || expr.Right(with(op(11), m[:0]...)) || expr.Right(ref(path[:0]...)) {
		t.Errorf("empty lists that are named")
	}
}

// 13.1: ErrDepth of what is deeper than 16, but ErrArg of what is not right, however deep, in each place.
func TestCheck(t *testing.T) {
	for n := range 40 {
		for _, inner := range []api.Expr{number(1), record(), ref("a", "b")} {
			want := api.OK
			if n+1 > 16 {
				want = api.ErrDepth
			}
			if e := expr.Check(nested(n, inner)); e != want {
				t.Errorf("Check of a depth of %d: %d", n+1, e)
			}
		}
		for _, inner := range wrongs() {
			if e := expr.Check(nested(n, inner)); e != api.ErrArg {
				t.Errorf("Check of what is wrong within %d: %d, of %s", n, e, show(inner))
			}
		}
		// What is wrong stands behind what is too deep.
		if e := expr.Check(kids(12, nested(n, number(1)), number(1<<53+1))); e != api.ErrArg {
			t.Errorf("Check of what is wrong behind a depth of %d: %d", n+2, e)
		}
	}
	for _, c := range []struct {
		e    api.Expr
		want api.Errno
	}{
		{kids(13, nested(14, number(1)), number(1)), api.OK}, {kids(13, nested(15, number(1)), number(1)), api.ErrDepth},
		{kids(13, number(1), nested(14, number(1))), api.OK}, {kids(13, number(1), nested(15, number(1))), api.ErrDepth},
		{record(pair("a", nested(14, op(5))), pair("b", op(5))), api.OK}, {record(pair("a", op(5)), pair("b", nested(15, op(5)))), api.ErrDepth}, {record(pair("a", nested(15, op(5))), pair("b", op(5))), api.ErrDepth},
		{nested(15, record()), api.OK}, {nested(16, record()), api.ErrDepth}, {nested(15, record(pair("a", record()))), api.ErrDepth},
		{kids(11, many(32, nested(14, ref("a")))...), api.OK}, {kids(11, append(many(31, op(5)), nested(15, ref("a")))...), api.ErrDepth},
	} {
		if e := expr.Check(c.e); e != c.want {
			t.Errorf("Check: %d, not %d, of %s", e, c.want, show(c.e))
		}
	}
}

// 13.1: size and depth, written out.
func TestSizeAndDepthByHand(t *testing.T) {
	one := number(1)
	for _, c := range []struct {
		e           api.Expr
		size, depth int
	}{
		{one, 1, 1}, {text("a"), 1, 1}, {ref("a", "b", "c"), 1, 1}, {record(), 1, 1}, {op(6), 1, 1}, {api.Expr{}, 1, 1}, {op(-3), 1, 1}, {op(11), 1, 1},
		{kids(11, ref("a", "b"), record(pair("x", ref("c")))), 4, 3}, // the chapter's example
		{record(pair("a", one)), 2, 2}, {record(pairs(33, one)...), 34, 2}, {kids(13, one), 2, 2}, {kids(12, many(40, one)...), 41, 2},
		{kids(13, kids(13, kids(13, one, one), one), one), 7, 4}, {kids(13, one, kids(13, one, kids(13, one, one))), 7, 4}, {kids(13, kids(14, one, one), kids(15, one, one)), 7, 3},
		{record(pair("b", kids(11, one, one, one)), pair("a", one)), 6, 3}, {record(pair("b", one), pair("b", kids(11, record(pair("", one)), one))), 6, 4},
		// Of those that are no structs Pairs are no parts; of structs Kids are none.
		{api.Expr{Op: 1, Pairs: pairs(3, one)}, 1, 1}, {api.Expr{Op: 11, Pairs: pairs(3, one), Kids: many(2, one)}, 3, 2}, {api.Expr{Op: 10, Pairs: pairs(3, one), Kids: many(2, kids(11, one))}, 4, 2}, {api.Expr{Op: 10, Kids: many(2, one)}, 1, 1},
		{with(one, one, with(text("a"), one)), 4, 3}, {with(api.Expr{}, with(ref(), op(77))), 3, 3},
	} {
		if n, d := expr.Size(c.e), expr.Depth(c.e); n != c.size || d != c.depth {
			t.Errorf("size %d, depth %d; not %d, %d; of %s", n, d, c.size, c.depth, show(c.e))
		}
	}
}

// 13.1: expressions that are nested as deep as they may be in one another, and such as have many parts, end.
func TestGreat(t *testing.T) {
	const n = 1 << 16
	for o := 10; o <= 15; o++ {
		e := ref("a")
		for range n - 1 {
			if o == 10 {
				e = record(pair("a", e))
			} else {
				e = kids(o, number(1), e)
			}
		}
		c := expr.Copy(e)
		if !expr.Right(e) || expr.Check(e) != api.ErrDepth || expr.Depth(e) != n || !expr.Same(e, c) || len(expr.Refs(e)) != 1 {
			t.Errorf("operation %d, %d deep: %d, a depth of %d", o, n, expr.Check(e), expr.Depth(e))
		}
		if got, size := len(slices.Collect(expr.Walk(e))), expr.Size(e); got != size || size != n && size != 2*n-1 {
			t.Errorf("operation %d, %d deep: %d of %d told", o, n, got, size)
		}
	}
	for _, e := range []api.Expr{record(make([]api.Pair, n)...), kids(12, make([]api.Expr, n)...), {Op: 9, Path: make([]string, n)}, {Op: 10, Kids: make([]api.Expr, n)}, text(strings.Repeat("x", n)), kids(11, many(n, ref("a"))...)} {
		if expr.Right(e) || expr.Check(e) != api.ErrArg || !expr.Same(e, expr.Copy(e)) || len(slices.Collect(expr.Walk(e))) != expr.Size(e) || expr.Size(e) > 1 && expr.Size(e) != n+1 || len(expr.Refs(e)) > n {
			t.Errorf("operation %d with many parts: a size of %d", e.Op, expr.Size(e))
		}
	}
	if expr.Right(withN(1, math.MinInt)) {
		t.Errorf("Right: true of the least int")
	}
}
