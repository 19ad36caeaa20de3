package scratch_test

import (
	"fmt"
	"maps"
	"slices"
	"strconv"
	"testing"

	"treillage/api"
	"treillage/eval"
	"treillage/refs"
	"treillage/scratch"
)

// model is a run by the chapter's words, each read of which lies within the one that asks.
type model struct {
	nodes []api.Node
	fuel  int
	at    map[string]int // places among nodes
	state map[string]int // 1: under way, 2: evaluated
	came  map[string]api.Result
	steps int
	anew  bool // each name is evaluated wherever it is read, as if it never was
}

func modelOf(nodes []api.Node, fuel int) *model {
	m := &model{nodes: nodes, fuel: fuel, at: map[string]int{}, state: map[string]int{}, came: map[string]api.Result{}}
	for i, n := range nodes {
		m.at[n.Name] = i
	}
	return m
}

func (m *model) Read(s string) api.Result {
	i, ok := m.at[s]
	if !ok {
		return api.Result{E: api.ErrName}
	}
	switch m.state[s] {
	case 1:
		return api.Result{E: api.ErrCycle}
	case 2:
		return m.came[s]
	}
	m.state[s] = 1
	o := eval.Node(m.nodes[i].Defs, m.fuel, m)
	m.steps += o.Steps
	if m.state[s] = 2; m.anew {
		m.state[s] = 0
		return o.R
	}
	m.came[s] = o.R
	return o.R
}

// from is what the model tells of a run.
func (m *model) from(l ...string) string {
	for _, s := range l {
		m.Read(s)
	}
	var out []api.Dep
	for _, s := range slices.Sorted(maps.Keys(m.came)) {
		out = append(out, api.Dep{Name: s, R: m.came[s]})
	}
	return saidAll(out, m.steps)
}

// dice are numbers that have no order to be seen.
type dice uint32

// roll is a number from 0 up to below n.
func (d *dice) roll(n int) int {
	*d = *d*1664525 + 1013904223
	return int(uint32(*d)>>8) % n
}

// names are those of rolled nodes; the last one is never there.
var names = []string{"a", "b", "c", "d", "net", "web", "zz", "lost"}

// rolled are some nodes whose names are all unlike, in any order.
func rolled(d *dice) []api.Node {
	var nodes []api.Node
	for _, s := range names[:len(names)-1] {
		if d.roll(5) == 0 {
			continue
		}
		n := api.Node{Name: s, Res: d.roll(2) == 0}
		for range []int{1, 1, 1, 1, 1, 2, 2, 0}[d.roll(8)] {
			n.Defs = append(n.Defs, rolledExpr(d, d.roll(3)))
		}
		nodes = append(nodes, n)
	}
	for i := range nodes {
		j := d.roll(i + 1)
		nodes[i], nodes[j] = nodes[j], nodes[i]
	}
	return nodes
}

// rolledExpr is an expression, which seldom may not be.
func rolledExpr(d *dice, deep int) api.Expr {
	if deep == 0 {
		s := names[d.roll(len(names))]
		l := []api.Expr{number(d.roll(3)), number(1), {Op: api.OpText, Text: "a"}, {Op: api.OpKind, N: api.KInt}, {Op: api.OpLater}, ref(s), ref(s), ref(s), ref(s), ref(s, "f"), {Op: api.OpNone}}
		if d.roll(40) == 0 {
			return api.Expr{}
		}
		return l[d.roll(len(l))]
	}
	if d.roll(5) == 0 {
		return api.Expr{Op: api.OpStruct, Pairs: []api.Pair{{Name: "f", E: rolledExpr(d, deep-1)}, {Name: "g", E: rolledExpr(d, deep-1)}}}
	}
	op := []int{api.OpMeet, api.OpJoin, api.OpJoin, api.OpJoin, api.OpAdd, api.OpMul}[d.roll(6)]
	return kids(op, rolledExpr(d, deep-1), rolledExpr(d, deep-1))
}

// 20.1: rolled nodes, read from rolled names, held against the chapter's words.
func TestModel(t *testing.T) {
	came := map[string]int{}
	for i := range 4000 {
		d := new(dice(i))
		nodes := rolled(d)
		var l []string
		for range d.roll(4) {
			l = append(l, names[d.roll(len(names))])
		}
		fuel := []int{plenty, plenty, 3, 2, 0}[d.roll(5)]
		out, steps := scratch.All(nodes, fuel, l...)
		if got, want := saidAll(out, steps), modelOf(nodes, fuel).from(l...); got != want {
			t.Fatalf("%v with %d from %v: %s, not %s", nodes, fuel, l, got, want)
		}
		for _, r := range out {
			came[said(r.R)]++
		}
		for _, s := range names {
			if got, want := said(scratch.One(nodes, fuel, s)), said(modelOf(nodes, fuel).Read(s)); got != want {
				t.Fatalf("%v with %d: %s is read as %s, not %s", nodes, fuel, s, got, want)
			}
		}
	}
	for _, s := range []string{"!1", "!23", "!24", "!26", "!27", "!28", "1", "2"} {
		if came[s] < 20 {
			t.Errorf("only %d came to %s", came[s], s)
		}
	}
}

// 20.2: what a node comes to is the same from whichever name the run begins, in whichever order, and as if nothing that it reads was ever evaluated ahead.
func TestFromWherever(t *testing.T) {
	for i := range 1500 {
		d := new(dice(i))
		nodes := rolled(d)
		fuel := []int{plenty, plenty, 3}[d.roll(3)]
		alone := map[string]string{}
		for _, s := range names {
			alone[s] = said(scratch.One(nodes, fuel, s))
			m := modelOf(nodes, fuel)
			m.anew = true
			if got := said(m.Read(s)); got != alone[s] {
				t.Fatalf("%v: %s is read as %s, with nothing kept as %s", nodes, s, alone[s], got)
			}
		}
		for range 6 {
			l := slices.Clone(names)
			for i := range l {
				j := d.roll(i + 1)
				l[i], l[j] = l[j], l[i]
			}
			out, _ := scratch.All(nodes, fuel, l[:1+d.roll(len(l))]...)
			for _, r := range out {
				if said(r.R) != alone[r.Name] {
					t.Fatalf("%v with %d from %v: %s came to %s, alone to %s", nodes, fuel, l, r.Name, said(r.R), alone[r.Name])
				}
			}
		}
	}
}

// 20.2: what a node comes to does not hang on nodes that it doesn't reach, whatever stands in them, or if they are not there.
func TestUnreached(t *testing.T) {
	unreached := 0
	for i := range 1500 {
		d := new(dice(i))
		nodes := rolled(d)
		for _, n := range nodes {
			want, steps := scratch.All(nodes, plenty, n.Name)
			reached := refs.Reads(nodes, n.Name)
			var others, fewer []api.Node
			for _, m := range nodes {
				if slices.Contains(reached, m.Name) {
					others, fewer = append(others, m), append(fewer, m)
					continue
				}
				unreached++
				others = append(others, api.Node{Name: m.Name, Defs: []api.Expr{rolledExpr(d, d.roll(3))}})
			}
			slices.Reverse(others)
			for _, now := range [][]api.Node{others, fewer} {
				if got, want := saidAll(scratch.All(now, plenty, n.Name)), saidAll(want, steps); got != want {
					t.Fatalf("%v from %s: %s, not %s as of %v", now, n.Name, got, want, nodes)
				}
			}
		}
	}
	if unreached < 5000 {
		t.Errorf("only %d were not reached", unreached)
	}
}

// label is the name of the node at a place of a long list.
func label(i int) string { return fmt.Sprintf("n%07d", i) }

// long are n nodes in a chain, and one at the end of it.
func long(n int, last api.Expr, link func(i int) api.Expr) []api.Node {
	var nodes []api.Node
	for i := range n {
		nodes = append(nodes, node(label(i), link(i)))
	}
	return append(nodes, node(label(n), last))
}

// next is a link to the node behind one.
func next(i int) api.Expr { return ref(label(i + 1)) }

// 20.1, R1: chains come to what is at their end: a value, an error, a ring; some of them longer than any stack is deep.
func TestLong(t *testing.T) {
	for _, n := range []int{4094, 4095, 4096, 4097, 6143, 6144, 6145, 12_000, 500_000} {
		for i, c := range []struct {
			last api.Expr
			want string
		}{{number(4), "4"}, {ref(label(0)), "!24"}, {ref(label(n)), "!24"}, {ref(label(n / 2)), "!24"}, {ref("lost"), "!23"}, {api.Expr{}, "!1"}} {
			if n == 500_000 && i > 0 {
				break
			}
			nodes := long(n, c.last, next)
			want := n + 1
			if c.want == "!1" {
				want = n // what may not be is refused without a step
			}
			l, steps := scratch.All(nodes, 1, label(n/3), label(0))
			if len(l) != n+1 || steps != want || said(l[0].R) != c.want || said(l[n/3].R) != c.want || said(l[n].R) != c.want {
				t.Errorf("a chain of %d to %v: %d came to %s, in %d", n, c.last, len(l), said(l[0].R), steps)
			}
			if got := said(scratch.One(nodes, 1, label(1))); n < 5000 && got != c.want {
				t.Errorf("a chain of %d to %v: read as %s", n, c.last, got)
			}
		}
	}
}

// 20.1: a long chain of nodes whose definitions are as deep as may be.
func TestLongAndDeep(t *testing.T) {
	const n = 20_000
	nodes := long(n, number(0), func(i int) api.Expr {
		e := kids(api.OpAdd, ref(label(i+1)), number(1))
		for range 14 {
			e = kids(api.OpAdd, e, number(0))
		}
		return e
	})
	l, steps := scratch.All(nodes, plenty, label(0))
	if len(l) != n+1 || steps != n*31+1 || said(l[0].R) != strconv.Itoa(n) || said(l[1].R) != strconv.Itoa(n-1) {
		t.Errorf("%d came to %s, in %d", len(l), said(l[0].R), steps)
	}
}

// 20.1: long chains with ways beside and back, held against the chapter's words.
func TestLongModel(t *testing.T) {
	const n = 10_000
	for i := range 8 {
		d := new(dice(i))
		odd := []int{n * 10, 9000, 5000, 2000}[i%4]
		nodes := long(n, number(1), func(i int) api.Expr {
			near := func() api.Expr { return ref(label(min(n, i+1+d.roll(3)))) }
			switch d.roll(odd) {
			case 0:
				return kids(api.OpJoin, near(), ref(label(d.roll(n))))
			case 1:
				return kids(api.OpJoin, ref("lost"), near())
			case 2:
				return number(7)
			}
			if d.roll(2) == 0 {
				return kids(api.OpMeet, near(), near(), near())
			}
			return kids(api.OpJoin, near(), ref(label(min(n, i+1+d.roll(5000)))))
		})
		for range 4 {
			from := []string{label(d.roll(n)), label(d.roll(100)), label(0)}[d.roll(3):]
			got, want := saidAll(scratch.All(nodes, plenty, from...)), modelOf(nodes, plenty).from(from...)
			if got != want {
				t.Fatalf("%d from %v: %.300s, not %.300s", i, from, got, want)
			}
			if a, b := said(scratch.One(nodes, plenty, from[0])), said(modelOf(nodes, plenty).Read(from[0])); a != b {
				t.Fatalf("%d: %s is read as %s, not %s", i, from[0], a, b)
			}
		}
	}
}

// 20.1: many long chains that leave one long way at its places, each of them cut again.
func TestComb(t *testing.T) {
	const teeth, way, tooth = 40, 3000, 2500
	var nodes []api.Node
	for i := range way {
		nodes = append(nodes, node(label(i), ref(label(i+1))))
	}
	var l []api.Expr
	for k := range teeth {
		from := way + 1 + k*tooth
		l = append(l, ref(label(from)))
		for i := range tooth - 1 {
			nodes = append(nodes, node(label(from+i), ref(label(from+i+1))))
		}
		nodes = append(nodes, node(label(from+tooth-1), number(k)))
	}
	meets := l[0]
	for _, e := range l[1:] {
		meets = kids(api.OpJoin, meets, e)
		if len(meets.Kids[0].Kids) > 0 {
			meets = kids(api.OpJoin, append(slices.Clone(meets.Kids[0].Kids), e)...)
		}
		if len(meets.Kids) == 32 {
			break
		}
	}
	nodes = append(nodes, node(label(way), meets, kids(api.OpJoin, number(3), ref(label(way+1+35*tooth)))))
	out, steps := scratch.All(nodes, plenty, label(0))
	if len(out) != way+1+33*tooth || steps != way+36+33*tooth || said(out[0].R) != "3" {
		t.Errorf("%d came to %s, in %d", len(out), said(out[0].R), steps)
	}
}
