package incr_test

import (
	"fmt"
	"maps"
	"slices"
	"strings"
	"testing"

	"treillage/api"
	"treillage/dirty"
	"treillage/disk"
	"treillage/entry"
	"treillage/eval"
	"treillage/key"
	"treillage/memo"
	"treillage/scratch"
)

// model is a run by the chapter's words, over a list of entries.
type model struct {
	nodes       []api.Node
	fuel        int
	kept        *[]api.Entry
	settled     map[string]api.Result
	under       map[string]bool
	evals, hits []string
	steps       int
	deps        map[string][]api.Dep // what was read where each was settled
}

func modelOf(nodes []api.Node, fuel int, kept *[]api.Entry) *model {
	return &model{nodes: nodes, fuel: fuel, kept: kept, settled: map[string]api.Result{}, under: map[string]bool{}, deps: map[string][]api.Dep{}}
}

// Read reads a name.
func (m *model) Read(s string) api.Result {
	at := slices.IndexFunc(m.nodes, func(n api.Node) bool { return n.Name == s })
	if at < 0 {
		return wrong(absent)
	}
	if r, ok := m.settled[s]; ok {
		return r
	}
	if m.under[s] {
		return wrong(ring)
	}
	m.under[s] = true
	defer delete(m.under, s)
	k, e := key.Of(m.nodes[at], m.fuel)
	if e != fine {
		panic("this one has no key")
	}
	for i := len(*m.kept) - 1; i >= 0; i-- {
		if x := (*m.kept)[i]; x.Key == k && m.holds(x.Deps) {
			m.settled[s], m.deps[s] = x.R, x.Deps
			m.hits = append(m.hits, s)
			return x.R
		}
	}
	out := eval.Node(m.nodes[at].Defs, m.fuel, m)
	*m.kept = append(*m.kept, api.Entry{Key: k, Deps: out.Deps, R: out.R, Steps: out.Steps})
	m.steps += out.Steps
	m.evals = append(m.evals, s)
	m.settled[s], m.deps[s] = out.R, out.Deps
	return out.R
}

// holds tells whether all of a trace is true still.
func (m *model) holds(l []api.Dep) bool {
	for _, d := range l {
		if said(m.Read(d.Name)) != said(d.R) {
			return false
		}
	}
	return true
}

// all is what is settled, as a text.
func (m *model) all() string {
	var l []api.Dep
	for _, s := range slices.Sorted(maps.Keys(m.settled)) {
		l = append(l, dep(s, m.settled[s]))
	}
	return saidAll(l)
}

// told is what the model tells of itself.
func (m *model) told() string {
	return fmt.Sprintf("%s; %s; %d; 0", strings.Join(m.evals, " "), strings.Join(m.hits, " "), m.steps)
}

// rolledNames are some names, in any order, some of them more than once, some no node's.
func rolledNames(d *dice) []string {
	var l []string
	for range d.roll(6) {
		l = append(l, names[d.roll(len(names))])
	}
	return l
}

// unsound are entries for the keys of some nodes that no evaluation has made.
func unsound(t *testing.T, d *dice, nodes []api.Node, fuel int) []api.Entry {
	t.Helper()
	var l []api.Entry
	for range d.roll(4) {
		if len(nodes) == 0 {
			return nil
		}
		k, _ := key.Of(nodes[d.roll(len(nodes))], fuel)
		x := api.Entry{Key: k, R: []api.Result{came(number(4)), came(), wrong(ring), wrong(63), came(closed("f", number(1)))}[d.roll(5)], Steps: d.roll(9)}
		seen := map[string]bool{}
		for range d.roll(4) {
			s := names[d.roll(len(names))]
			if !seen[s] {
				x.Deps = append(x.Deps, dep(s, []api.Result{came(number(1)), came(number(2)), wrong(ring), wrong(absent), scratch.One(nodes, fuel, s), scratch.One(nodes, fuel, s)}[d.roll(6)]))
			}
			seen[s] = true
		}
		l = append(l, x)
	}
	return l
}

// 28.1, 28.2: rolled configurations that change from run to run, over one memo, with entries among them that no evaluation has made, held against the chapter's words.
func TestModel(t *testing.T) {
	hits, evals, foreign := 0, 0, 0
	for i := range 1500 {
		d := new(dice(i))
		defs := rolledDefs(d)
		fuel := []int{plenty, plenty, 4, 2, 1}[d.roll(5)]
		m := blank(t)
		var kept []api.Entry
		for range 6 {
			edit(d, defs)
			nodes := nodesOf(t, defs)
			if i%3 == 0 {
				for _, x := range unsound(t, d, nodes, fuel) {
					if !slices.ContainsFunc(kept, func(y api.Entry) bool { return saidEntry(x) == saidEntry(y) }) {
						kept = append(kept, x)
						foreign++
					}
					put(t, m, x)
				}
			}
			w, by := begun(t, nodes, fuel, m), modelOf(nodes, fuel, &kept)
			for range 3 {
				if d.roll(2) == 0 {
					s := names[d.roll(len(names))]
					if got, want := said(w.Read(s)), said(by.Read(s)); got != want {
						t.Fatalf("%d: %s is read as %s, not %s", i, s, got, want)
					}
				} else {
					l := rolledNames(d)
					for _, s := range l {
						by.Read(s)
					}
					if got, want := saidAll(w.All(l...)), by.all(); got != want {
						t.Fatalf("%d: of %q is settled %s, not %s", i, l, got, want)
					}
				}
				if got, want := told(w), by.told(); got != want {
					t.Fatalf("%d: told is %s, not %s", i, got, want)
				}
			}
			if got, want := saidEntries(m.All()), saidEntries(kept); got != want {
				t.Fatalf("%d: the memo has\n%s, not\n%s", i, got, want)
			}
			hits, evals = hits+len(w.Hits()), evals+len(w.Evals())
		}
	}
	if hits < 5000 || evals < 5000 || foreign < 1000 {
		t.Errorf("only %d hits, %d evals and %d that no evaluation has made", hits, evals, foreign)
	}
}

// 28.3: rolled configurations that change from run to run, over a disk that is cut off and woken at times: each name is read as it is from nothing, and what the memo has is sound.
func TestFromNothing(t *testing.T) {
	hits, downs, rings := 0, 0, 0
	for i := range 1500 {
		d := new(dice(i))
		defs := rolledDefs(d)
		fuel := []int{plenty, plenty, plenty, 3}[d.roll(4)]
		k := disk.New()
		if d.roll(3) == 0 {
			k.Load("memo", []string{"junk", record("junk"), record("") + "\xa5"}[d.roll(3)])
		}
		m := onDisk(t, k)
		for range 6 {
			edit(d, defs)
			nodes := nodesOf(t, defs)
			if d.roll(4) == 0 {
				k.Fuse(1+d.roll(4), d.roll(60)-1)
			}
			w := begun(t, nodes, fuel, m)
			for _, s := range rolledNames(d) {
				got, want := said(w.Read(s)), said(scratch.One(nodes, fuel, s))
				if got != want {
					t.Fatalf("%d: %s is read as %s, from nothing as %s", i, s, got, want)
				}
				if got == "!24" {
					rings++
				}
			}
			for _, r := range w.All() {
				if want := said(scratch.One(nodes, fuel, r.Name)); said(r.R) != want {
					t.Fatalf("%d: %s is settled as %s, from nothing as %s", i, r.Name, said(r.R), want)
				}
			}
			if w.Err() != fine != k.Down() {
				t.Fatalf("%d: Err is %d", i, w.Err())
			}
			for _, x := range m.All() {
				if !entry.Sound(x) {
					t.Fatalf("%d: not sound: %s", i, saidEntry(x))
				}
			}
			hits += len(w.Hits())
			if k.Down() || d.roll(5) == 0 {
				if k.Down() {
					downs++
				}
				k.Wake(d.roll(400))
				m = onDisk(t, k)
			}
		}
	}
	if hits < 5000 || downs < 500 || rings < 1000 {
		t.Errorf("only %d hits, %d cut off, %d in rings", hits, downs, rings)
	}
}

// 28.3: a run behind one of the same nodes, names and fuel evaluates nothing, whatever stood in the memo at first, from other names within them, too; and what an earlier one settled is a hit, whichever runs came between.
func TestBehindTheSame(t *testing.T) {
	for i := range 1500 {
		d := new(dice(i))
		defs, others := rolledDefs(d), rolledDefs(d)
		fuel := []int{plenty, plenty, 3}[d.roll(3)]
		nodes, l := nodesOf(t, defs), rolledNames(d)
		m := blank(t)
		begun(t, nodesOf(t, others), fuel, m).All(names...)
		first := begun(t, nodes, fuel, m)
		want := saidAll(first.All(l...))
		for range 3 {
			if d.roll(2) == 0 {
				begun(t, nodesOf(t, others), fuel, m).All(names...)
			}
			n := m.Len()
			w := begun(t, nodes, fuel, m)
			for _, r := range w.All(l[:d.roll(len(l)+1)]...) {
				if _, ok := slices.BinarySearchFunc(first.All(), r.Name, func(x api.Dep, s string) int { return strings.Compare(x.Name, s) }); !ok {
					t.Fatalf("%d: %s was not settled ahead", i, r.Name)
				}
			}
			if got := saidAll(w.All(l...)); got != want || len(w.Evals()) != 0 || w.Steps() != 0 || m.Len() != n {
				t.Fatalf("%d: settled is %s, not %s; told is %s", i, got, want, told(w))
			}
		}
	}
}

// 28.3, 27.2: what is evaluated, and was settled in the run ahead, has other definitions than there, or read there a name that now comes to something else; so it is dirty.
func TestNoMore(t *testing.T) {
	others, read, spared := 0, 0, 0
	for i := range 4000 {
		d := new(dice(i))
		defs := rolledDefs(d)
		fuel := []int{plenty, plenty, 3}[d.roll(3)]
		m := blank(t)
		var kept []api.Entry
		old := nodesOf(t, defs)
		by := modelOf(old, fuel, &kept)
		l := rolledNames(d)
		for _, s := range l {
			by.Read(s)
		}
		begun(t, old, fuel, m).All(l...)
		for range 1 + d.roll(2) {
			edit(d, defs)
		}
		now := nodesOf(t, defs)
		w := begun(t, now, fuel, m)
		w.All(l...)
		changed, touched := dirty.Names(old, now), dirty.Nodes(old, now)
		for _, s := range w.Evals() {
			if _, ok := by.settled[s]; !ok {
				continue
			}
			something := slices.ContainsFunc(by.deps[s], func(x api.Dep) bool { return said(x.R) != said(scratch.One(now, fuel, x.Name)) })
			switch {
			case slices.Contains(changed, s):
				others++
			case something:
				read++
			default:
				t.Fatalf("%d: %s is evaluated again", i, s)
			}
			if !slices.Contains(touched, s) {
				t.Fatalf("%d: %s is evaluated again, and is not dirty", i, s)
			}
		}
		for _, s := range w.Hits() {
			if slices.Contains(touched, s) {
				spared++
			}
		}
	}
	if others < 300 || read < 300 || spared < 100 {
		t.Errorf("only %d with other definitions, %d that read something else, %d that were spared", others, read, spared)
	}
}

// 28.3: a memo that is opened anew, or of which just the last entries were kept, makes names be read as ever.
func TestKeep(t *testing.T) {
	for i := range 800 {
		d := new(dice(i))
		defs := rolledDefs(d)
		k := disk.New()
		m := onDisk(t, k)
		for range 5 {
			edit(d, defs)
			nodes := nodesOf(t, defs)
			if e := m.Keep(d.roll(8)); e != fine {
				t.Fatalf("Keep: %d", e)
			}
			if d.roll(2) == 0 {
				m, _ = memo.Open(k, "memo", 1+d.roll(9))
			}
			w := begun(t, nodes, plenty, m)
			for _, s := range rolledNames(d) {
				reads(t, w, s, said(scratch.One(nodes, plenty, s)))
			}
		}
	}
}
