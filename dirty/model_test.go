package dirty_test

import (
	"slices"
	"testing"

	"treillage/api"
	"treillage/dirty"
	"treillage/scratch"
)

// read tells the names that an expression reads, wherever they stand in it.
func read(e api.Expr) []string {
	var l []string
	if e.Op == api.OpRef {
		l = append(l, e.Path[0])
	}
	for _, x := range e.Kids {
		l = append(l, read(x)...)
	}
	for _, p := range e.Pairs {
		l = append(l, read(p.E)...)
	}
	return l
}

// of is the node of a name, if there is one.
func of(nodes []api.Node, s string) (api.Node, bool) {
	for _, n := range nodes {
		if n.Name == s {
			return n, true
		}
	}
	return api.Node{}, false
}

// reached are the names that are reached from one of a list by so many lines, or fewer.
func reached(nodes []api.Node, l []string, lines int) []string {
	for range lines {
		for _, s := range slices.Clone(l) {
			n, _ := of(nodes, s)
			for _, e := range n.Defs {
				l = append(l, read(e)...)
			}
		}
		slices.Sort(l)
		l = slices.Compact(l)
	}
	return l
}

// modelNames are the names that have changed, by the chapter's words.
func modelNames(old, now []api.Node) string {
	var l []string
	for _, s := range names {
		a, was := of(old, s)
		b, is := of(now, s)
		if was != is || texts(a) != texts(b) {
			l = append(l, s)
		}
	}
	slices.Sort(l)
	return words(l)
}

// modelNodes are the nodes that are dirty, by the chapter's words.
func modelNodes(old, now []api.Node) string {
	changed := dirty.Names(old, now)
	var l []string
	for _, n := range now {
		if slices.ContainsFunc(reached(now, []string{n.Name}, len(names)), func(s string) bool { return slices.Contains(changed, s) }) {
			l = append(l, n.Name)
		}
	}
	slices.Sort(l)
	return words(l)
}

// 27.1: rolled nodes and what became of them, held against the chapter's words.
func TestModel(t *testing.T) {
	clean, some, all := 0, 0, 0
	for i := range 20000 {
		d := new(dice(i))
		old := rolled(d)
		now := edited(d, old)
		if d.roll(10) == 0 {
			now = rolled(d)
		}
		was, is := said(old), said(now)
		if got, want := words(dirty.Names(old, now)), modelNames(old, now); got != want {
			t.Fatalf("%v, then %v: the names %s, not %s", old, now, got, want)
		}
		l := dirty.Nodes(old, now)
		if got, want := words(l), modelNodes(old, now); got != want {
			t.Fatalf("%v, then %v: the nodes %s, not %s", old, now, got, want)
		}
		if said(old) != was || said(now) != is {
			t.Fatalf("what was handed in is another one")
		}
		switch len(l) {
		case 0:
			clean++
		case len(now):
			all++
		default:
			some++
		}
	}
	if clean < 2000 || some < 5000 || all < 1000 {
		t.Errorf("%d without a change, %d with some dirty ones, %d with all", clean, some, all)
	}
}

// same tells whether a name is read as the same of two lists of nodes.
func same(old, now []api.Node, fuel int, s string) bool {
	a, n := scratch.All(old, fuel, s)
	b, m := scratch.All(now, fuel, s)
	x, y := scratch.One(old, fuel, s), scratch.One(now, fuel, s)
	return n == m && len(a) == len(b) && x.E == y.E && alike(x.V, y.V) && slices.EqualFunc(a, b, func(x, y api.Dep) bool { return x.Name == y.Name && x.R.E == y.R.E && alike(x.R.V, y.R.V) })
}

// alike tells whether two values have the same terms.
func alike(a, b api.Value) bool {
	return slices.EqualFunc(a.Terms, b.Terms, func(s, t api.Term) bool {
		same := s.Kind == t.Kind && s.Lo == t.Lo && s.Hi == t.Hi && s.Text == t.Text && s.Any == t.Any && s.Maybe == t.Maybe && s.Open == t.Open
		return same && slices.EqualFunc(s.Fields, t.Fields, func(f, g api.Field) bool { return f.Name == g.Name && alike(f.V, g.V) })
	})
}

// 27.2: a node that is not dirty is one in both, and comes to the same in both, as all do that it reaches, in as many steps.
func TestClean(t *testing.T) {
	clean, others := 0, 0
	for i := range 8000 {
		d := new(dice(i))
		old := rolled(d)
		now := edited(d, old)
		fuel := []int{1000, 1000, 3}[d.roll(3)]
		l := dirty.Nodes(old, now)
		for _, n := range now {
			if slices.Contains(l, n.Name) {
				if !same(old, now, fuel, n.Name) {
					others++
				}
				continue
			}
			clean++
			if _, ok := of(old, n.Name); !ok {
				t.Fatalf("%v, then %v: %s was none, and is not dirty", old, now, n.Name)
			}
			for _, s := range reached(now, []string{n.Name}, len(names)) {
				if slices.Contains(l, s) || !same(old, now, fuel, s) {
					t.Fatalf("%v, then %v: %s is not dirty, and reaches %s", old, now, n.Name, s)
				}
			}
		}
	}
	if clean < 10000 || others < 1000 {
		t.Errorf("%d were not dirty, %d of those that were came to something else", clean, others)
	}
}
