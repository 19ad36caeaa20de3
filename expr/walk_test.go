package expr_test

import (
	"fmt"
	"slices"
	"strconv"
	"strings"
	"testing"

	"treillage/api"
	"treillage/expr"
)

// spelt is an expression as a text that has all fields of it and of all that is in its lists, so that unlike ones have unlike texts.
func spelt(e api.Expr) string {
	var b strings.Builder
	var spell func(e api.Expr)
	spell = func(e api.Expr) {
		fmt.Fprintf(&b, "%d %d %q %v %q %d[", e.Op, e.N, e.Text, e.Open, e.Path, len(e.Pairs))
		for _, p := range e.Pairs {
			b.WriteString(strconv.Quote(p.Name))
			spell(p.E)
		}
		fmt.Fprintf(&b, "]%d(", len(e.Kids))
		for _, k := range e.Kids {
			spell(k)
		}
		b.WriteString(")")
	}
	spell(e)
	return b.String()
}

// ordered are an expression and all that is in it, by a list of those that come next.
func ordered(e api.Expr) (l []api.Expr, depth int) {
	type open struct {
		e     api.Expr
		depth int
	}
	for next := []open{{e, 1}}; len(next) > 0; {
		x := next[0]
		l, depth = append(l, x.e), max(depth, x.depth)
		var parts []open
		for _, p := range x.e.Pairs {
			if x.e.Op == 10 {
				parts = append(parts, open{p.E, x.depth + 1})
			}
		}
		for _, k := range x.e.Kids {
			if x.e.Op != 10 {
				parts = append(parts, open{k, x.depth + 1})
			}
		}
		next = slices.Concat(parts, next[1:])
	}
	return l, depth
}

// 13.2: the order, written out.
func TestWalkByHand(t *testing.T) {
	e := kids(11, ref("a", "b"), record(pair("y", kids(13, number(1), text("c"))), pair("x", ref("d"))), number(2))
	var got []int
	for x := range expr.Walk(e) {
		got = append(got, x.Op)
	}
	if !slices.Equal(got, []int{11, 9, 10, 13, 1, 2, 9, 1}) {
		t.Errorf("Walk: %v", got)
	}
	if l := slices.Collect(expr.Walk(api.Expr{})); len(l) != 1 || !same(l[0], api.Expr{}) {
		t.Errorf("Walk of nothing: %v", l)
	}
}

// 13.1, 13.2: of expressions of all sorts, right or not: the size, the depth, and all that is in them, in order, each time from the begin, and no more behind a stop.
func TestWalk(t *testing.T) {
	for _, e := range all() {
		want, depth := ordered(e)
		if n, d := expr.Size(e), expr.Depth(e); n != len(want) || d != depth {
			t.Fatalf("size %d, depth %d; not %d, %d; of %s", n, d, len(want), depth, show(e))
		}
		walk := expr.Walk(e)
		for stop := range len(want) {
			told := 0
			walk(func(x api.Expr) bool {
				if told > stop || !same(x, want[told]) {
					t.Fatalf("Walk, at %d of %d: %s, of %s", told, len(want), show(x), show(e))
				}
				told++
				return told <= stop
			})
			if told != stop+1 {
				t.Fatalf("Walk: %d told, not %d, of %s", told, stop+1, show(e))
			}
		}
		if n := len(slices.Collect(walk)); n != len(want) || len(slices.Collect(walk)) != n {
			t.Fatalf("Walk, once more: %d, not %d, of %s", n, len(want), show(e))
		}
	}
}

// 13.2: a walk that is gone through within itself.
func TestWalkWithinItself(t *testing.T) {
	e := nested(7, record(pair("a", ref("x")), pair("b", number(4))))
	walk, n, told := expr.Walk(e), expr.Size(e), 0
	for x := range walk {
		for y := range walk {
			if same(x, y) && x.Op == 9 && x.Path[0] == "x" {
				break
			}
			told++
		}
	}
	if told < n || told > n*n {
		t.Errorf("%d told, of %d", told, n)
	}
	defer func() {
		if recover() != "stop" {
			t.Errorf("a panic of the loop's body is not handed on")
		}
		if len(slices.Collect(walk)) != n {
			t.Errorf("behind a panic of the loop's body the walk is another one")
		}
	}()
	for range walk {
		panic("stop")
	}
}

// 13.2, R5, R9: what is told stays the same when what was handed in is changed.
func TestWalkIsKept(t *testing.T) {
	for _, e := range all() {
		e = deepCopy(e)
		want, _ := ordered(deepCopy(e))
		walk := expr.Walk(e)
		spoil(e)
		if !slices.EqualFunc(slices.Collect(walk), want, same) {
			t.Fatalf("Walk is changed, of %s", show(want[0]))
		}
	}
}

// 13.2: the references, written out; those without a Path are none, and one may come more often.
func TestRefsByHand(t *testing.T) {
	for _, c := range []struct {
		e    api.Expr
		want []string
	}{
		{number(1), nil}, {ref(), nil}, {ref("a"), []string{"a"}}, {ref("a", "b"), []string{"a"}}, {ref("", "b"), []string{""}}, {ref("true"), []string{"true"}},
		{kids(11, ref("a", "b"), record(pair("x", ref("c")))), []string{"a", "c"}}, // the chapter's example
		{kids(13, ref("b"), kids(13, ref("a"), ref("b", "c"))), []string{"b", "a", "b"}},
		{kids(12, ref("a"), ref(), ref("a"), ref("a")), []string{"a", "a", "a"}},
		{record(pair("z", ref("a")), pair("a", record(pair("q", ref("z")))), pair("b", kids(15, ref("y"), text("x")))), []string{"a", "z", "y"}},
		{with(ref("a"), ref("b"), with(ref(), ref("c"))), []string{"a", "b", "c"}},
		{api.Expr{Op: 10, Path: []string{"a"}, Kids: []api.Expr{ref("b")}}, nil}, {api.Expr{Op: 1, Path: []string{"a"}, Pairs: pairs(1, ref("b"))}, nil}, {api.Expr{Op: 11, Path: []string{"a"}, Kids: []api.Expr{ref("b")}}, []string{"b"}},
	} {
		if got := expr.Refs(c.e); !slices.Equal(got, c.want) {
			t.Errorf("Refs: %q, not %q, of %s", got, c.want, show(c.e))
		}
	}
	for _, e := range all() {
		var want []string
		l, _ := ordered(e)
		for _, x := range l {
			if x.Op == 9 && len(x.Path) > 0 {
				want = append(want, x.Path[0])
			}
		}
		if got := expr.Refs(e); !slices.Equal(got, want) {
			t.Errorf("Refs: %q, not %q, of %s", got, want, show(e))
		}
	}
	e := ref("a", "b")
	expr.Refs(e)[0] = "x"
	if !same(e, ref("a", "b")) {
		t.Errorf("Refs shares memory with what was handed in")
	}
}
