package refs_test

import (
	"fmt"
	"slices"
	"testing"

	"treillage/api"
	"treillage/expr"
	"treillage/graph"
	"treillage/refs"
)

// model tells by the chapter's words which name reads which, as a table of all names.
type model struct {
	names    []string
	node     map[string]bool
	resource map[string]bool
	reads    map[string]map[string]bool
}

func modelOf(nodes []api.Node) *model {
	m := &model{node: map[string]bool{}, resource: map[string]bool{}, reads: map[string]map[string]bool{}}
	for _, n := range nodes {
		m.names = append(m.names, n.Name)
		m.node[n.Name], m.resource[n.Name], m.reads[n.Name] = true, n.Res, map[string]bool{}
		for _, e := range n.Defs {
			for _, s := range expr.Refs(e) {
				m.reads[n.Name][s] = true
				m.names = append(m.names, s)
			}
		}
	}
	slices.Sort(m.names)
	m.names = slices.Compact(m.names)
	return m
}

// drawn is the graph.
func (m *model) drawn() *graph.Graph[string] {
	g := graph.New(m.names...)
	for _, s := range m.names {
		for to := range m.reads[s] {
			g.Link(s, to)
		}
	}
	return g
}

// over tells of all pairs of names whether there is a way of one line or more from the one to the other, on which none stands between but such as may: first the ways with nothing between, then, name by name, those that go over it.
func (m *model) over(may func(s string) bool) map[[2]string]bool {
	way := map[[2]string]bool{}
	for _, s := range m.names {
		for to := range m.reads[s] {
			way[[2]string{s, to}] = true
		}
	}
	for _, by := range m.names {
		for _, s := range m.names {
			for _, to := range m.names {
				if may(by) && way[[2]string{s, by}] && way[[2]string{by, to}] {
					way[[2]string{s, to}] = true
				}
			}
		}
	}
	return way
}

// those are the names of which something holds, rising.
func (m *model) those(holds func(s string) bool) []string {
	return slices.DeleteFunc(slices.Clone(m.names), func(s string) bool { return !holds(s) })
}

// deps are the resources to which ways go from a name on which no resource stands but these two.
func (m *model) deps(s string) []string {
	return m.those(func(to string) bool {
		way := m.over(func(by string) bool { return !m.resource[by] || by == s || by == to })
		return m.resource[to] && to != s && way[[2]string{s, to}]
	})
}

// dice are numbers that have no order to be seen.
type dice uint32

// roll is a number from 0 up to below n.
func (d *dice) roll(n int) int {
	*d = *d*1664525 + 1013904223
	return int(uint32(*d)>>8) % n
}

// rolled are nodes whose names are all unlike, with the names that each reads, in the order in which they come first.
func rolled(d *dice) ([]api.Node, map[string][]string) {
	names := []string{"a", "b", "c", "d", "net", "web", "zz"}
	var nodes []api.Node
	of := map[string][]string{}
	for _, s := range names {
		if d.roll(4) == 0 {
			continue
		}
		n := api.Node{Name: s, Res: d.roll(2) == 0}
		for range d.roll(3) {
			var e api.Expr
			e, of[s] = definition(d, d.roll(4), names, of[s])
			n.Defs = append(n.Defs, e)
		}
		nodes = append(nodes, n)
	}
	for i := range nodes {
		j := d.roll(i + 1)
		nodes[i], nodes[j] = nodes[j], nodes[i]
	}
	return nodes, of
}

// definition is an expression of a depth, and the names that were read, with those that it reads behind them.
func definition(d *dice, deep int, names, read []string) (api.Expr, []string) {
	if deep == 0 {
		if d.roll(3) == 0 {
			return api.Expr{Op: 1 + d.roll(8), Text: "a"}, read
		}
		s := names[d.roll(len(names))]
		if !slices.Contains(read, s) {
			read = append(read, s)
		}
		return ref(s, "a"), read
	}
	e := api.Expr{Op: api.OpStruct + d.roll(6)}
	for i := range 1 + d.roll(2) {
		var part api.Expr
		part, read = definition(d, deep-1, names, read)
		if e.Op == api.OpStruct {
			e.Pairs = append(e.Pairs, pair(fmt.Sprint("f", i), part))
		} else {
			e.Kids = append(e.Kids, part)
		}
	}
	return e, read
}

// 18.1, 18.2: rolled nodes, held against the chapter's words, of all names that there are and of one that there is not.
func TestRolled(t *testing.T) {
	deps, rings := 0, 0
	for i := range 400 {
		nodes, of := rolled(new(dice(i)))
		m := modelOf(nodes)
		what := fmt.Sprint(nodes)
		for _, n := range nodes {
			is(t, what+": Of "+n.Name, refs.Of(n), of[n.Name])
		}
		if got, want := written(refs.Graph(nodes)), written(m.drawn()); got != want {
			t.Errorf("%s: Graph: %s, not %s", what, got, want)
		}
		is(t, what+": Missing", refs.Missing(nodes), m.those(func(s string) bool { return !m.node[s] }))
		is(t, what+": Things", refs.Things(nodes), m.those(func(s string) bool { return m.resource[s] }))
		way := m.over(func(string) bool { return true })
		for _, s := range append(slices.Clone(m.names), "nowhere") {
			is(t, what+": Deps "+s, refs.Deps(nodes, s), m.deps(s))
			deps += len(m.deps(s))
			if way[[2]string{s, s}] {
				rings++
			}
			for _, s2 := range m.names {
				reaches := func(from, to string) bool { return from == to || way[[2]string{from, to}] }
				is(t, what+": Reads "+s+" "+s2, refs.Reads(nodes, s, s2), m.those(func(to string) bool { return m.node[to] && (reaches(s, to) || reaches(s2, to)) }))
				is(t, what+": Touched "+s+" "+s2, refs.Touched(nodes, s, s2), m.those(func(from string) bool { return m.node[from] && (reaches(from, s) || reaches(from, s2)) }))
			}
		}
		if t.Failed() {
			t.FailNow()
		}
	}
	if deps < 500 || rings < 500 {
		t.Errorf("too few of some kind: %d %d", deps, rings)
	}
}

// is fails, if a list is not the one that is asked.
func is(t *testing.T, what string, got, want []string) {
	t.Helper()
	if !slices.Equal(got, want) {
		t.Errorf("%s: %q, not %q", what, got, want)
	}
}

// 18.3: what is not touched by a name is the same without it, and with other definitions of it, with all that it reads.
func TestUntouched(t *testing.T) {
	untouched := 0
	for i := range 600 {
		nodes, _ := rolled(new(dice(i)))
		for at, n := range nodes {
			touched := refs.Touched(nodes, n.Name)
			without := slices.Delete(slices.Clone(nodes), at, at+1)
			other := slices.Clone(nodes)
			other[at] = api.Node{Name: n.Name, Res: !n.Res, Defs: reading("zz", "a", "new")}
			for _, k := range nodes {
				if slices.Contains(touched, k.Name) {
					continue
				}
				untouched++
				for _, now := range [][]api.Node{without, other} {
					is(t, "Reads", refs.Reads(now, k.Name), refs.Reads(nodes, k.Name))
					is(t, "Deps", refs.Deps(now, k.Name), refs.Deps(nodes, k.Name))
					is(t, "Of", refs.Of(now[find(now, k.Name)]), refs.Of(k))
					is(t, "what is lacking", lacking(now, k.Name), lacking(nodes, k.Name))
				}
			}
			if t.Failed() {
				t.Fatalf("%v: %s", nodes, n.Name)
			}
		}
	}
	if untouched < 1000 {
		t.Errorf("only %d are not touched", untouched)
	}
}

// find is the place of a node's name.
func find(nodes []api.Node, s string) int {
	return slices.IndexFunc(nodes, func(n api.Node) bool { return n.Name == s })
}

// lacking are the names that are reached from one, and are no node's.
func lacking(nodes []api.Node, s string) []string {
	missing := refs.Missing(nodes)
	return slices.DeleteFunc(refs.Graph(nodes).Reach(s), func(k string) bool { return !slices.Contains(missing, k) })
}

// 18.1, 18.2: as many nodes as there may be, and many more, in a chain, in a ring, and all of them reading one.
func TestLarge(t *testing.T) {
	for _, n := range []int{api.MaxNodes, 1 << 14} {
		name := func(i int) string { return fmt.Sprintf("n%06d", i) }
		var chain, star []api.Node
		for i := range n {
			chain = append(chain, node(name(i), ref(name(i+1))))
			star = append(star, resource(name(i), ref(name(n)), ref(name(n))))
		}
		chain = append(chain, resource(name(n), ref(name(0))))
		star = append(star, node(name(n), reading(refs.Things(star)...)...))
		if l := refs.Deps(chain, name(0)); !slices.Equal(l, []string{name(n)}) {
			t.Errorf("Deps in a chain of %d: %d", n, len(l))
		}
		if l := refs.Deps(chain, name(n)); len(l) != 0 {
			t.Errorf("Deps over a ring of %d: %d", n, len(l))
		}
		if a, b, c := len(refs.Reads(chain, name(3))), len(refs.Touched(chain, name(3))), len(refs.Missing(chain)); a != n+1 || b != n+1 || c != 0 {
			t.Errorf("in a ring of %d: %d are read, %d are touched, %d are missing", n, a, b, c)
		}
		if a, b := len(refs.Deps(star, name(5))), len(refs.Deps(star, name(n))); a != n-1 || b != n {
			t.Errorf("Deps in a star of %d: %d %d", n, a, b)
		}
	}
	deep := ref("a")
	for range 1 << 12 {
		deep = kids(api.OpAdd, ref("b"), deep)
	}
	same(t, "Of a deep one", refs.Of(node("x", deep)), "b a")
}

// R1, R10: nodes several of which have one name, of which nothing is promised.
func TestAlike(t *testing.T) {
	for i := range 500 {
		d := new(dice(i))
		nodes, _ := rolled(d)
		more, _ := rolled(d)
		nodes = append(nodes, more...)
		for _, s := range []string{"a", "net", "", "nowhere"} {
			refs.Deps(nodes, s)
			refs.Reads(nodes, s, s)
			refs.Touched(nodes, s, "a", s)
		}
		refs.Missing(nodes)
		refs.Things(nodes)
		refs.Graph(nodes).Order()
	}
}
