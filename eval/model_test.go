package eval_test

import (
	"fmt"
	"math/big"
	"slices"
	"testing"

	"treillage/api"
	"treillage/eval"
	"treillage/expr"
	"treillage/fact"
	"treillage/lat"
	"treillage/rank"
)

// model goes by the chapter's words, with an error told from call to call.
type model struct {
	fuel, steps int
	read        func(s string) api.Result
	deps        []api.Dep
}

// node is all that Node tells.
func (m *model) node(defs []api.Expr) eval.Out {
	v, e := m.comes(defs[0])
	for _, d := range defs[1:] {
		v, e = m.next(v, e, d, lat.Meet)
	}
	o := eval.Out{R: api.Result{E: e, V: v}, Deps: m.deps, Steps: m.steps}
	if e != api.OK {
		o.R.V = api.Value{}
	}
	return o
}

// next puts what an expression comes to to what is there already, unless that is an error.
func (m *model) next(v api.Value, e api.Errno, x api.Expr, put func(a, b api.Value) (api.Value, api.Errno)) (api.Value, api.Errno) {
	if e != api.OK {
		return v, e
	}
	w, e := m.comes(x)
	if e != api.OK {
		return v, e
	}
	return put(v, w)
}

// comes is what an expression comes to.
func (m *model) comes(x api.Expr) (v api.Value, e api.Errno) {
	if m.steps >= m.fuel {
		return v, api.ErrFuel
	}
	m.steps++
	switch x.Op {
	case 1:
		return value(number(x.N, x.N)), api.OK
	case 2:
		return value(text(x.Text)), api.OK
	case 3:
		return value([]api.Term{no, yes}[x.N]), api.OK
	case 4:
		return value(map[int]api.Term{1: both, 2: numbers, 3: texts, 5: all}[x.N]), api.OK
	case 5:
		return value(), api.OK
	case 6:
		return value(maybe(both), maybe(numbers), maybe(texts)), api.OK
	case 7:
		return value(number(x.N, top)), api.OK
	case 8:
		return value(number(-top, x.N)), api.OK
	case 9:
		return m.reference(x.Path)
	case 10:
		return m.structure(x)
	case 11, 12:
		put := lat.Meet
		if x.Op == 12 {
			put = lat.Join
		}
		v, e = m.comes(x.Kids[0])
		for _, k := range x.Kids[1:] {
			v, e = m.next(v, e, k, put)
		}
		return v, e
	}
	a, e := m.comes(x.Kids[0])
	if e != api.OK {
		return v, e
	}
	b, e := m.comes(x.Kids[1])
	if e != api.OK {
		return v, e
	}
	return modelSum(x.Op, a, b)
}

// reference is what a path comes to: each name is read once.
func (m *model) reference(path []string) (v api.Value, e api.Errno) {
	at := slices.IndexFunc(m.deps, func(d api.Dep) bool { return d.Name == path[0] })
	if at < 0 {
		r := m.read(path[0])
		if r.E == api.OK && !lat.Right(r.V) {
			r.E = api.ErrArg
		}
		if r.E != api.OK {
			r.V = api.Value{}
		}
		at, m.deps = len(m.deps), append(m.deps, api.Dep{Name: path[0], R: r})
	}
	if r := m.deps[at].R; r.E != api.OK {
		return v, r.E
	}
	return fact.Pick(m.deps[at].R.V, path[1:]...)
}

// structure is what a struct comes to.
func (m *model) structure(x api.Expr) (v api.Value, e api.Errno) {
	var l []api.Field
	for _, p := range x.Pairs {
		w, e := m.comes(p.E)
		if e != api.OK {
			return v, e
		}
		l = append(l, api.Field{Name: p.Name, V: w})
	}
	return lat.Struct(x.Open, l)
}

// modelSum is a sum, a difference or a product.
func modelSum(op int, a, b api.Value) (v api.Value, e api.Errno) {
	for _, w := range []api.Value{a, b} {
		if _, e := fact.One(w); e != api.OK {
			return v, e
		}
	}
	s, t := a.Terms[0], b.Terms[0]
	if !(s.Kind == 2 && t.Kind == 2 || op == 13 && s.Kind == 3 && t.Kind == 3) {
		return v, api.ErrKind
	}
	for _, u := range []api.Term{s, t} {
		if !u.Maybe && (u.Any || u.Lo != u.Hi) {
			return v, api.ErrVague
		}
	}
	switch {
	case (s.Maybe || t.Maybe) && s.Kind == 2:
		return value(maybe(numbers)), api.OK
	case s.Maybe || t.Maybe:
		return value(maybe(texts)), api.OK
	case s.Kind == 3 && len(s.Text)+len(t.Text) > 256:
		return v, api.ErrLong
	case s.Kind == 3:
		return value(text(s.Text + t.Text)), api.OK
	}
	x, y := big.NewInt(int64(s.Lo)), big.NewInt(int64(t.Lo))
	z := map[int]*big.Int{13: new(big.Int).Add(x, y), 14: new(big.Int).Sub(x, y), 15: new(big.Int).Mul(x, y)}[op]
	if z.CmpAbs(big.NewInt(top)) > 0 {
		return v, api.ErrOver
	}
	return value(number(int(z.Int64()), int(z.Int64()))), api.OK
}

// names are those that rolled expressions read; the last one is never there.
var names = []string{"a", "b", "c", "d", "net", "web", "lost"}

// rolledExpr is an expression that may be.
func rolledExpr(d *dice, deep int) api.Expr {
	if deep == 0 || d.roll(5) == 0 {
		return rolledUnit(d)
	}
	e := api.Expr{Op: []int{9, 10, 10, 10, 11, 11, 11, 12, 12, 12, 12, 12, 13, 13, 14, 15}[d.roll(16)]}
	switch e.Op {
	case api.OpRef:
		return rolledUnit(d)
	case api.OpStruct:
		e.Open = d.roll(2) == 0
		for _, k := range []string{"a", "b", "c"} {
			if d.roll(2) == 0 {
				e.Pairs = append(e.Pairs, api.Pair{Name: k, E: rolledExpr(d, deep-1)})
			}
		}
		return e
	}
	n := 2
	if e.Op == api.OpMeet || e.Op == api.OpJoin {
		n += d.roll(2)
	}
	for range n {
		e.Kids = append(e.Kids, rolledExpr(d, deep-1))
	}
	return e
}

// rolledUnit is an expression without parts.
func rolledUnit(d *dice) api.Expr {
	switch op := []int{1, 1, 1, 2, 3, 4, 4, 5, 6, 7, 8, 9, 9, 9, 9, 9}[d.roll(16)]; op {
	case api.OpInt:
		return api.Expr{Op: op, N: []int{0, 1, 2, 3, -1, top, -top, top - 1}[d.roll(8)]}
	case api.OpText:
		return api.Expr{Op: op, Text: []string{"", "a", "b"}[d.roll(3)]}
	case api.OpBool:
		return api.Expr{Op: op, N: d.roll(2)}
	case api.OpKind:
		return api.Expr{Op: op, N: []int{1, 2, 3, 5}[d.roll(4)]}
	case api.OpAtLeast, api.OpAtMost:
		return api.Expr{Op: op, N: d.roll(5) - 1}
	case api.OpRef:
		return api.Expr{Op: op, Path: append([]string{names[d.roll(len(names))]}, [][]string{nil, nil, nil, nil, nil, nil, {"a"}, {"b"}, {"a", "b"}}[d.roll(9)]...)}
	default:
		return api.Expr{Op: op}
	}
}

// rolledDefs are definitions that may be.
func rolledDefs(d *dice) []api.Expr {
	var l []api.Expr
	for range []int{1, 1, 2, 3, 4}[d.roll(5)] {
		l = append(l, rolledExpr(d, d.roll(5)))
	}
	return l
}

// rolledValue is a right value.
func rolledValue(d *dice, deep int) api.Value {
	var l []api.Term
	for range []int{1, 1, 1, 1, 1, 0, 2}[d.roll(7)] {
		l = append(l, rolledTerm(d, deep))
	}
	v, _ := lat.Of(l...)
	return v
}

// rolledTerm is a right term.
func rolledTerm(d *dice, deep int) api.Term {
	if deep > 0 && d.roll(2) > 0 {
		t := api.Term{Kind: 4, Open: d.roll(2) == 0}
		for _, k := range []string{"a", "b", "c"} {
			if v := rolledValue(d, deep-1); len(v.Terms) > 0 && d.roll(2) > 0 {
				t.Fields = append(t.Fields, api.Field{Name: k, V: v})
			}
		}
		return t
	}
	lo := d.roll(3)
	l := []api.Term{no, yes, number(lo, lo), number(lo, lo), number(top-lo, top-lo), text(""), text("a"), both, maybe(both), number(lo, lo+d.roll(3)), maybe(number(lo, lo+1+d.roll(3))), maybe(numbers), texts, maybe(texts), all}
	return l[d.roll(len(l))]
}

// rolledResult is an answer of a reader: seldom an error, a value beside one, or a value that is not right.
func rolledResult(d *dice) api.Result {
	switch d.roll(16) {
	case 0:
		return api.Result{E: api.Errno(d.roll(40) - 3)}
	case 1:
		return api.Result{E: api.ErrCycle, V: rolledValue(d, 2)}
	case 2:
		return api.Result{V: value(yes, no)}
	}
	return api.Result{V: rolledValue(d, 3)}
}

// rolledList are answers for all names but the last.
func rolledList(d *dice) eval.List {
	var l eval.List
	for _, s := range names[:len(names)-1] {
		l = append(l, api.Dep{Name: s, R: rolledResult(d)})
	}
	return l
}

// like tells whether a node comes to the same, has read the same, in as many steps.
func like(a, b eval.Out) bool { return saidOut(a) == saidOut(b) }

// rolled tells definitions, what they read, and what Node tells of them, many times, each time other ones.
func rolled(t *testing.T, n int, ask func(what string, d *dice, defs []api.Expr, l eval.List, o eval.Out)) {
	for i := range n {
		d := new(dice(i))
		defs, l := rolledDefs(d), rolledList(d)
		what := fmt.Sprint("rolled ", i, ": ", defs)
		ask(what, d, defs, l, eval.Node(defs, plenty, l))
		if t.Failed() {
			t.FailNow()
		}
	}
}

// 19.1: rolled definitions, with much fuel and with some, held against the chapter's words.
func TestModel(t *testing.T) {
	came := map[api.Errno]int{}
	rolled(t, 6000, func(what string, d *dice, defs []api.Expr, l eval.List, o eval.Out) {
		came[o.R.E]++
		for _, fuel := range []int{plenty, d.roll(8)} {
			m := &model{fuel: fuel, read: l.Read}
			if got, want := eval.Node(defs, fuel, l), m.node(defs); !like(got, want) {
				t.Errorf("%s: %s, not %s", what, saidOut(got), saidOut(want))
			}
		}
	})
	for e, least := range map[api.Errno]int{api.OK: 1000, api.ErrArg: 100, api.ErrName: 100, api.ErrOver: 15, api.ErrKind: 100, api.ErrVague: 100, api.ErrField: 30, api.ErrClash: 30, api.ErrCycle: 100} {
		if came[e] < least {
			t.Errorf("%d came to the error %d, not %d", came[e], e, least)
		}
	}
}

// 19.2: the value is right; beside an error it is none; what was read is told as it counts, each name once.
func TestRightAndOnce(t *testing.T) {
	rolled(t, 3000, func(what string, d *dice, defs []api.Expr, l eval.List, o eval.Out) {
		if !lat.Right(o.R.V) || o.R.E != api.OK && len(o.R.V.Terms) > 0 {
			t.Errorf("%s: %s", what, said(o.R))
		}
		seen := map[string]bool{}
		for _, dep := range o.Deps {
			want := l.Read(dep.Name)
			if want.E != api.OK {
				want.V = api.Value{}
			} else if !lat.Right(want.V) {
				want = api.Result{E: api.ErrArg}
			}
			if seen[dep.Name] || said(dep.R) != said(want) {
				t.Errorf("%s: %s", what, saidOut(o))
			}
			seen[dep.Name] = true
		}
		size := 0
		for _, e := range defs {
			size += expr.Size(e)
		}
		if o.Steps > size || o.R.E == api.OK && o.Steps < size {
			t.Errorf("%s: %d steps of %d expressions", what, o.Steps, size)
		}
	})
}

// 19.2: more fuel changes nothing but ErrFuel; with as much as there were steps, reading what Deps list, it is the same; with less it ends there, and has read no other names.
func TestFuelTells(t *testing.T) {
	rolled(t, 1500, func(what string, d *dice, defs []api.Expr, l eval.List, o eval.Out) {
		for fuel := range o.Steps + 4 {
			got := eval.Node(defs, fuel, l)
			if fuel >= o.Steps {
				if !like(got, o) || !like(eval.Node(defs, fuel, eval.List(o.Deps)), o) {
					t.Errorf("%s with %d: %s, not %s", what, fuel, saidOut(got), saidOut(o))
				}
				continue
			}
			want := eval.Out{R: api.Result{E: api.ErrFuel}, Steps: fuel, Deps: o.Deps[:min(len(got.Deps), len(o.Deps))]}
			if !like(got, want) || !like(eval.Node(defs, fuel, eval.List(got.Deps)), got) {
				t.Errorf("%s with %d: %s, not %s", what, fuel, saidOut(got), saidOut(want))
			}
		}
	})
}

// 19.2: what a node reads hangs on nothing but what it read ahead.
func TestReadsHang(t *testing.T) {
	several := 0
	rolled(t, 1500, func(what string, d *dice, defs []api.Expr, l eval.List, o eval.Out) {
		for at := range o.Deps {
			// Those ahead of this one are as they were, all others are something else.
			other := slices.Concat(o.Deps[:at], rolledList(d))
			got := eval.Node(defs, plenty, eval.List(other))
			if len(got.Deps) <= at || got.Deps[at].Name != o.Deps[at].Name || saidOut(eval.Out{Deps: got.Deps[:at]}) != saidOut(eval.Out{Deps: o.Deps[:at]}) {
				t.Errorf("%s: %s, and with other answers from %d on %s", what, saidOut(o), at, saidOut(got))
			}
			several += at
		}
	})
	if several < 300 {
		t.Errorf("only %d names were read behind others", several)
	}
}

// P6: what a node comes to goes down with what it reads, as long as both come to no error.
func TestGoesDown(t *testing.T) {
	downs := 0
	rolled(t, 6000, func(what string, d *dice, defs []api.Expr, l eval.List, lower eval.Out) {
		var upper eval.List
		for _, dep := range l {
			if v, e := lat.Join(dep.R.V, rolledValue(d, 3)); dep.R.E == api.OK && e == api.OK && d.roll(2) == 0 {
				dep.R.V = v
			}
			upper = append(upper, dep)
		}
		o, got := eval.Node(defs, plenty, upper), lower
		if o.R.E != api.OK || got.R.E != api.OK {
			return
		}
		if !lat.Below(got.R.V, o.R.V) {
			t.Errorf("%s: %s, and of what is below that %s", what, saidOut(o), saidOut(got))
		}
		if !rank.Same(got.R.V, o.R.V) {
			downs++
		}
	})
	if downs < 100 {
		t.Errorf("only %d went down", downs)
	}
}
