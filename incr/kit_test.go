package incr_test

import (
	"fmt"
	"slices"
	"strconv"
	"strings"
	"testing"

	"treillage/api"
	"treillage/disk"
	"treillage/frame"
	"treillage/gather"
	"treillage/incr"
	"treillage/key"
	"treillage/memo"
)

// OK and the errors by their numbers.
const (
	fine   = 0
	refuse = 1
	off    = 8
	absent = 23
	ring   = 24
)

// plenty is more fuel than any of the tests' nodes take.
const plenty = 10000

// mostFuel is the greatest fuel that there may be.
const mostFuel = 1048576

// config are the nodes of one file.
func config(t *testing.T, text string) []api.Node {
	t.Helper()
	nodes, _, at, e := gather.Nodes([]api.Source{{Name: "a", Text: text}})
	if e != fine {
		t.Fatalf("Nodes(%q): %d %d", text, at, e)
	}
	return nodes
}

// number, text, came, wrong and dep are short for what entries are made of.
func number(n int) api.Term                 { return api.Term{Kind: 2, Lo: n, Hi: n} }
func text(s string) api.Term                { return api.Term{Kind: 3, Text: s} }
func came(l ...api.Term) api.Result         { return api.Result{V: api.Value{Terms: l}} }
func wrong(e api.Errno) api.Result          { return api.Result{E: e} }
func dep(name string, r api.Result) api.Dep { return api.Dep{Name: name, R: r} }

// closed is a struct of one field.
func closed(name string, l ...api.Term) api.Term {
	return api.Term{Kind: 4, Fields: []api.Field{{Name: name, V: api.Value{Terms: l}}}}
}

// said is a result as a text: an error as its number with a mark ahead, a number as its digits, other values term by term.
func said(r api.Result) string {
	if r.E != fine {
		return "!" + strconv.Itoa(int(r.E)) + strings.Repeat(" beside a value", len(r.V.Terms))
	}
	return saidValue(r.V)
}

// saidValue is a value as a text, unlike for unlike ones.
func saidValue(v api.Value) string {
	var l []string
	for _, t := range v.Terms {
		if t.Kind == 2 && t.Lo == t.Hi && !t.Maybe {
			l = append(l, strconv.Itoa(t.Lo))
			continue
		}
		s := fmt.Sprintf("(%d %d %d %q %t %t %t", t.Kind, t.Lo, t.Hi, t.Text, t.Any, t.Maybe, t.Open)
		for _, f := range t.Fields {
			s += " " + f.Name + ":" + saidValue(f.V)
		}
		l = append(l, s+")")
	}
	if len(l) == 0 {
		return "none"
	}
	return strings.Join(l, "|")
}

// saidAll are names and what they came to, as a text.
func saidAll(l []api.Dep) string {
	var s []string
	for _, d := range l {
		s = append(s, d.Name+"="+said(d.R))
	}
	return strings.Join(s, " ")
}

// saidEntry is an entry as a text, unlike for unlike ones.
func saidEntry(x api.Entry) string {
	return fmt.Sprintf("%q [%s] %s in %d", x.Key, saidAll(x.Deps), said(x.R), x.Steps)
}

// saidEntries are entries as a text, a line for each.
func saidEntries(l []api.Entry) string {
	s := ""
	for _, x := range l {
		s += saidEntry(x) + "\n"
	}
	return s
}

// saidNodes are nodes as a text, as far as keys tell them.
func saidNodes(nodes []api.Node) string {
	s := ""
	for _, n := range nodes {
		k, e := key.Of(n, 1)
		s += fmt.Sprint(k, e, n.Res, "\n")
	}
	return s
}

// onDisk is a memo on some disk.
func onDisk(t *testing.T, d *disk.Disk) *memo.Memo {
	t.Helper()
	m, e := memo.Open(d, "memo", 4)
	if e != fine {
		t.Fatalf("Open: %d", e)
	}
	return m
}

// blank is a memo without entries.
func blank(t *testing.T) *memo.Memo {
	t.Helper()
	return onDisk(t, disk.New())
}

// begun is a run in which nothing is settled.
func begun(t *testing.T, nodes []api.Node, fuel int, m *memo.Memo) *incr.Run {
	t.Helper()
	w, e := incr.New(nodes, fuel, m)
	if w == nil || e != fine {
		t.Fatalf("New: %d", e)
	}
	return w
}

// refused fails, if a run is begun.
func refused(t *testing.T, what string, nodes []api.Node, fuel int, m *memo.Memo) {
	t.Helper()
	if w, e := incr.New(nodes, fuel, m); w != nil || e != refuse {
		t.Errorf("%s: New: %d", what, e)
	}
}

// reads fails, if a name is not read as something.
func reads(t *testing.T, w *incr.Run, s, want string) {
	t.Helper()
	if got := said(w.Read(s)); got != want {
		t.Errorf("%s is read as %s, not %s", s, got, want)
	}
}

// all fails, if of some names, with blanks between, not this is settled.
func all(t *testing.T, w *incr.Run, names, want string) {
	t.Helper()
	l := w.All(strings.Fields(names)...)
	if got := saidAll(l); got != want {
		t.Errorf("of %q is settled %s, not %s", names, got, want)
	}
}

// tells fails, if a run does not tell just this: the names that were evaluated, those that were hits, and the steps.
func tells(t *testing.T, w *incr.Run, evals, hits string, steps int) {
	t.Helper()
	if got, want := told(w), evals+"; "+hits+"; "+strconv.Itoa(steps)+"; 0"; got != want {
		t.Errorf("told is %s, not %s", got, want)
	}
}

// told is what a run tells of itself: evals, hits, steps and the error.
func told(w *incr.Run) string {
	return fmt.Sprintf("%s; %s; %d; %d", strings.Join(w.Evals(), " "), strings.Join(w.Hits(), " "), w.Steps(), w.Err())
}

// has fails, if a memo has not just so many entries.
func has(t *testing.T, m *memo.Memo, want int) {
	t.Helper()
	if n := m.Len(); n != want {
		t.Errorf("the memo has %d entries, not %d", n, want)
	}
}

// put lays entries into a memo.
func put(t *testing.T, m *memo.Memo, l ...api.Entry) {
	t.Helper()
	for _, x := range l {
		if e := m.Put(x); e != fine {
			t.Fatalf("Put(%s): %d", saidEntry(x), e)
		}
	}
}

// keyOf is the key of the node of a name.
func keyOf(t *testing.T, nodes []api.Node, fuel int, s string) string {
	t.Helper()
	at := gather.Find(nodes, s)
	if at < 0 {
		t.Fatalf("there is no %s", s)
	}
	k, e := key.Of(nodes[at], fuel)
	if e != fine {
		t.Fatalf("%s has no key: %d", s, e)
	}
	return k
}

// record is a text's record.
func record(s string) string {
	r, e := frame.Put(s)
	if e != fine {
		panic("this one is too long")
	}
	return r
}

// dice are numbers that have no order to be seen.
type dice uint32

// roll is a number from 0 up to below n.
func (d *dice) roll(n int) int {
	*d = *d*1664525 + 1013904223
	return int(uint32(*d)>>8) % n
}

// names are those of rolled nodes, rising; the last one is never there.
var names = []string{"a", "b", "c", "d", "e", "net", "web", "zz"}

// rolledDef is the text of an expression.
func rolledDef(d *dice) string {
	part := func() string {
		s := names[d.roll(len(names))]
		l := []string{"1", "2", "3", `"x"`, "int", "any", ">=1 & <=3", "none", "computed", "{f: 1;}", "{f: " + s + "; g: 2;}", s, s, s, s, s, s, s + ".f", "(1 | 2)"}
		return l[d.roll(len(l))]
	}
	s := part()
	for range d.roll(4) {
		s = "(" + s + ")" + []string{" & ", " | ", " | ", " + ", " + ", " * "}[d.roll(6)] + part()
	}
	return s
}

// rolledDefs are the definitions of rolled nodes, by their names.
func rolledDefs(d *dice) map[string][]string {
	defs := map[string][]string{}
	for _, s := range names[:len(names)-1] {
		if d.roll(6) > 0 {
			defs[s] = []string{rolledDef(d)}
		}
	}
	return defs
}

// edit makes a change, or none, of some definitions.
func edit(d *dice, defs map[string][]string) {
	s := names[d.roll(len(names)-1)]
	switch l := defs[s]; d.roll(8) {
	case 0:
		delete(defs, s)
	case 1:
		defs[s] = append(slices.Clone(l), rolledDef(d))
	case 2:
		l = slices.Clone(l)
		slices.Reverse(l)
		if len(l) > 0 {
			defs[s] = l
		}
	case 3:
		if len(l) > 0 {
			// What this comes to is the same, but for the fuel, though it is another definition.
			defs[s] = append(slices.Clone(l[:len(l)-1]), "("+l[len(l)-1]+") & any")
		}
	case 4:
	default:
		defs[s] = []string{rolledDef(d)}
	}
}

// nodesOf are the nodes of some definitions.
func nodesOf(t *testing.T, defs map[string][]string) []api.Node {
	t.Helper()
	s := ""
	for _, name := range names {
		for _, def := range defs[name] {
			s += name + ": " + def + ";\n"
		}
	}
	return config(t, s)
}
