package scratch

import (
	"slices"

	"treillage/api"
	"treillage/eval"
)

// most is how many nodes may be under way within one another ahead of a cut. Each of them takes its part of the stack, which has an end, and nodes may read one another in chains that are longer.
const most = 1 << 12

// run is a run over nodes, and what each of them is handed to read by.
type run struct {
	nodes map[string]api.Node
	fuel  int
	under map[string]bool       // what is under way
	came  map[string]api.Result // what was evaluated, and what it came to
	steps int
	path  []string // those that are under way within one another, but for such as wait behind a cut
	cut   bool     // path was full: nothing of it comes to an end
}

// begun is a run in which nothing was read yet.
func begun(nodes []api.Node, fuel int) *run {
	w := &run{nodes: map[string]api.Node{}, fuel: fuel, under: map[string]bool{}, came: map[string]api.Result{}}
	for _, n := range nodes {
		w.nodes[n.Name] = n
	}
	return w
}

// Read reads a name for a node that is under way.
func (w *run) Read(s string) api.Result {
	if r, came := w.came[s]; came {
		return r
	}
	n, there := w.nodes[s]
	switch {
	case !there:
		return api.Result{E: api.ErrName}
	case w.under[s]:
		return api.Result{E: api.ErrCycle}
	case len(w.path) == most:
		// Any error ends the node that reads, and that ends the one ahead of it: so all of path is left.
		w.cut = true
		return api.Result{E: api.ErrFuel}
	}
	return w.evaluated(n)
}

// evaluated is what a node comes to that is evaluated now.
func (w *run) evaluated(n api.Node) api.Result {
	w.under[n.Name], w.path = true, append(w.path, n.Name)
	out := eval.Node(n.Defs, w.fuel, w)
	if w.cut {
		return out.R
	}
	w.path = w.path[:len(w.path)-1]
	delete(w.under, n.Name)
	w.came[n.Name] = out.R
	w.steps += out.Steps
	return out.R
}

// whole reads a name from outside. Where a path is cut, its later half is begun anew, and evaluated, while the other one waits; that is begun anew then, reads the same up to there, and goes on.
func (w *run) whole(s string) api.Result {
	var waiting [][]string
	for {
		r := w.Read(s)
		switch {
		case w.cut:
			waiting = append(waiting, slices.Clone(w.path[:most/2]))
			s = w.anew(w.path[most/2:])
		case len(waiting) > 0:
			last := len(waiting) - 1
			s = w.anew(waiting[last])
			waiting = waiting[:last]
		default:
			return r
		}
	}
}

// anew takes a path, or the end of one, off what is under way, and tells the first of it, so that it can be read once more.
func (w *run) anew(path []string) string {
	for _, s := range path {
		delete(w.under, s)
	}
	s := path[0]
	w.path, w.cut = w.path[:0], false
	return s
}
