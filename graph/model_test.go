package graph_test

import (
	"cmp"
	"fmt"
	"slices"
	"testing"

	"treillage/graph"
)

// model has a graph's points and lines as lists, and tells all by the chapter's words.
type model[K cmp.Ordered] struct {
	points []K
	lines  [][2]K
}

func (m *model[K]) add(k K) {
	if !slices.Contains(m.points, k) {
		m.points = append(m.points, k)
		slices.Sort(m.points)
	}
}

func (m *model[K]) link(from, to K) {
	m.add(from)
	m.add(to)
	if !slices.Contains(m.lines, [2]K{from, to}) {
		m.lines = append(m.lines, [2]K{from, to})
	}
}

func (m *model[K]) to(k K) []K {
	var l []K
	for _, line := range m.lines {
		if line[0] == k {
			l = append(l, line[1])
		}
	}
	slices.Sort(l)
	return l
}

// reach takes what is reached until no line goes out of it any more.
func (m *model[K]) reach(from ...K) []K {
	var l []K
	for _, k := range m.points {
		if slices.Contains(from, k) {
			l = append(l, k)
		}
	}
	for n := -1; n < len(l); {
		n = len(l)
		for _, line := range m.lines {
			if slices.Contains(l, line[0]) && !slices.Contains(l, line[1]) {
				l = append(l, line[1])
			}
		}
	}
	slices.Sort(l)
	return l
}

func (m *model[K]) turned() *model[K] {
	turned := &model[K]{points: slices.Clone(m.points)}
	for _, line := range m.lines {
		turned.link(line[1], line[0])
	}
	return turned
}

// order takes the least point that may come next, as long as there is one.
func (m *model[K]) order() (l, bound []K) {
	for {
		at := slices.IndexFunc(m.points, func(k K) bool {
			return !slices.Contains(l, k) && !slices.ContainsFunc(m.to(k), func(to K) bool { return !slices.Contains(l, to) })
		})
		if at < 0 {
			break
		}
		l = append(l, m.points[at])
	}
	for _, k := range m.points {
		if !slices.Contains(l, k) {
			bound = append(bound, k)
		}
	}
	return l, bound
}

// rings are the points from which a line goes to one from which they are reached.
func (m *model[K]) rings() []K {
	var l []K
	for _, k := range m.points {
		if slices.Contains(m.reach(m.to(k)...), k) {
			l = append(l, k)
		}
	}
	return l
}

// agree fails, if a graph has not what the model has, asked of some keys, and of all pairs of them.
func agree[K cmp.Ordered](t *testing.T, g *graph.Graph[K], m *model[K], keys []K) {
	t.Helper()
	what := fmt.Sprintf("%v, %v", m.points, m.lines)
	if g.Len() != len(m.points) {
		t.Errorf("%s: Len: %d", what, g.Len())
	}
	same(t, what+": Points", g.Points(), m.points...)
	for _, k := range keys {
		if g.Has(k) != slices.Contains(m.points, k) {
			t.Errorf("%s: Has(%v): %v", what, k, g.Has(k))
		}
		same(t, fmt.Sprintf("%s: To(%v)", what, k), g.To(k), m.to(k)...)
		for _, k2 := range keys {
			same(t, fmt.Sprintf("%s: Reach(%v, %v)", what, k, k2), g.Reach(k, k2), m.reach(k, k2)...)
		}
	}
	l, bound := g.Order()
	order, left := m.order()
	same(t, what+": the order", l, order...)
	same(t, what+": what is bound", bound, left...)
	follows(t, what, g, m)
	if t.Failed() {
		t.FailNow()
	}
}

// follows fails, if one does not come behind those to which its lines go, or one that is bound reaches no ring (17.3).
func follows[K cmp.Ordered](t *testing.T, what string, g *graph.Graph[K], m *model[K]) {
	t.Helper()
	l, bound := g.Order()
	if len(l)+len(bound) != g.Len() {
		t.Errorf("%s: %d are in the order, %d are bound", what, len(l), len(bound))
	}
	for i, k := range l {
		for _, to := range g.To(k) {
			if at := slices.Index(l, to); at < 0 || at >= i {
				t.Errorf("%s: %v stands at %d, %v at %d", what, k, i, to, at)
			}
		}
	}
	rings := m.rings()
	for _, k := range bound {
		if !slices.ContainsFunc(g.Reach(k), func(to K) bool { return slices.Contains(rings, to) }) {
			t.Errorf("%s: %v is bound, and reaches no ring", what, k)
		}
	}
}

// 17.1 to 17.3: all graphs of up to four points.
func TestAllGraphs(t *testing.T) {
	for n := range 5 {
		keys := []int{-3, 5, 70, 800}[:n]
		for lines := range 1 << (n * n) {
			g, m := graph.New(keys...), &model[int]{points: keys}
			for i := range n * n {
				if lines>>i&1 == 1 {
					g.Link(keys[i/n], keys[i%n])
					m.link(keys[i/n], keys[i%n])
				}
			}
			order, left := m.order()
			l, bound := g.Order()
			if !slices.Equal(l, order) || !slices.Equal(bound, left) {
				t.Fatalf("%v: Order: %v %v, not %v %v", m.lines, l, bound, order, left)
			}
			if n < 4 || lines%31 == 0 {
				agree(t, g, m, append(keys[:n:n], 6))
				agree(t, g.Turned(), m.turned(), append(keys[:n:n], 6))
			}
		}
	}
}

// dice are numbers that have no order to be seen.
type dice uint32

// roll is a number from 0 up to below n.
func (d *dice) roll(n int) int {
	*d = *d*1664525 + 1013904223
	return int(uint32(*d)>>8) % n
}

// rolled writes to a graph and to its model by turns, and holds them against each other whenever some was written.
func rolled[K cmp.Ordered](t *testing.T, d *dice, keys []K) {
	t.Helper()
	var first []K
	for range d.roll(4) {
		first = append(first, keys[d.roll(len(keys))])
	}
	g, m := graph.New(first...), &model[K]{}
	for _, k := range first {
		m.add(k)
	}
	for range 4 {
		for range d.roll(len(keys)) {
			from, to := d.roll(len(keys)), d.roll(len(keys))
			// Many lines go one way, so that not all that is told is bound.
			if d.roll(8) > 0 {
				from, to = min(from, to), max(from, to)
			}
			if d.roll(5) == 0 || from == to && d.roll(4) > 0 {
				g.Add(keys[from])
				m.add(keys[from])
			} else {
				g.Link(keys[from], keys[to])
				m.link(keys[from], keys[to])
			}
		}
		agree(t, g, m, keys)
		agree(t, g.Turned(), m.turned(), keys)
	}
}

// 17.1 to 17.3: graphs of numbers and of texts, that grow.
func TestRolled(t *testing.T) {
	for i := range 300 {
		rolled(t, new(dice(i)), []int{4, -1, 12, 100, 7, 0, -100, 3, 11}[:2+i%8])
		rolled(t, new(dice(i+1000)), []string{"net", "", "web", "a", "b", "aa", "\xff", "ab", "Z", "a b"}[:2+i%9])
	}
}

// 17.1: the graph does not hang on the order in which its points and lines come.
func TestAnyOrder(t *testing.T) {
	lines := [][2]int{{1, 2}, {2, 3}, {3, 4}, {5, 1}, {5, 3}, {6, 6}, {7, 6}, {0, 4}, {8, 0}}
	m := &model[int]{}
	for _, line := range lines {
		m.link(line[0], line[1])
	}
	for i := range 200 {
		d, g := new(dice(i)), graph.New[int]()
		for left := slices.Clone(lines); len(left) > 0; {
			at := d.roll(len(left))
			g.Link(left[at][0], left[at][1])
			left = slices.Delete(left, at, at+1)
			if d.roll(3) == 0 {
				g.Add(lines[d.roll(len(lines)-len(left))][0])
			}
		}
		agree(t, g, m, m.points)
	}
}

// large is how many points the greater graphs have.
const large = 1 << 16

// 17.2: chains, rings and stars of many points, which end, and in which nothing is gone along again and again.
func TestLarge(t *testing.T) {
	up, down, ring, out, in := graph.New[int](), graph.New[int](), graph.New[int](), graph.New[int](), graph.New[int]()
	var rising, falling []int
	for i := range large {
		rising, falling = append(rising, i), append(falling, large-1-i)
		out.Link(-1, i)
		in.Link(i, large)
		ring.Link(i, (i+1)%large)
		if i > 0 {
			up.Link(i, i-1)
			down.Link(i-1, i)
		}
	}
	for _, c := range []struct {
		what         string
		g            *graph.Graph[int]
		order, bound []int
	}{
		{"each to the one below", up, rising, nil}, {"each to the one above", down, falling, nil}, {"a ring", ring, nil, rising},
		{"one to all", out, append(slices.Clone(rising), -1), nil}, {"all to one", in, append([]int{large}, rising...), nil},
	} {
		l, bound := c.g.Order()
		if !slices.Equal(l, c.order) || !slices.Equal(bound, c.bound) {
			t.Errorf("%s: %d are in the order, %d are bound", c.what, len(l), len(bound))
		}
		if n := len(c.g.Reach(c.g.Points()...)); n != c.g.Len() {
			t.Errorf("%s: %d are reached", c.what, n)
		}
	}
	for what, n := range map[string]int{"up": len(up.Reach(large - 1)), "down": len(down.Reach(0)), "ring": len(ring.Reach(7)), "out": len(out.Reach(-1)) - 1, "in": len(in.Turned().Reach(large)) - 1} {
		if n != large {
			t.Errorf("%s: %d are reached", what, n)
		}
	}
}

// 17.2: a graph in which each goes to each that is below it.
func TestDense(t *testing.T) {
	const n = 500
	g := graph.New[int]()
	var want []int
	for i := range n {
		want = append(want, i)
		for j := range i {
			g.Link(i, j)
		}
	}
	l, bound := g.Order()
	same(t, "the order", l, want...)
	same(t, "what is bound", bound)
	same(t, "Reach", g.Reach(n-1), want...)
	g.Link(0, n-1)
	l, bound = g.Order()
	same(t, "the order of a ring", l)
	same(t, "what is bound in a ring", bound, want...)
}
