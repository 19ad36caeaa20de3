package gather_test

import (
	"fmt"
	"slices"
	"strings"
	"testing"

	"treillage/api"
	"treillage/expr"
	"treillage/gather"
	"treillage/parse"
	"treillage/show"
)

// source and read are short for files, and for what stands in them.
func source(name, text string) api.Source { return api.Source{Name: name, Text: text} }

func read(t *testing.T, s string) api.Expr {
	t.Helper()
	e, at, fault := parse.Expr(s)
	if fault != api.OK {
		t.Fatalf("Expr(%q): %d %d", s, at, fault)
	}
	return e
}

// files are n files, their names rising, each with the same text.
func files(n int, text string) []api.Source {
	var l []api.Source
	for i := range n {
		l = append(l, source(fmt.Sprintf("f%02d", i), text))
	}
	return l
}

// defined are definitions of so many names from one on.
func defined(from, n int) string {
	var b strings.Builder
	for i := range n {
		fmt.Fprintf(&b, "n%d: %d;\n", from+i, i)
	}
	return b.String()
}

// spelt is what nodes are, a line each.
func spelt(nodes []api.Node) string {
	var b strings.Builder
	for _, n := range nodes {
		if n.Res {
			b.WriteString("resource ")
		}
		b.WriteString(n.Name)
		for i, e := range n.Defs {
			s, _ := show.Expr(e)
			b.WriteString([]string{", ", ": "}[max(0, 1-i)] + s)
		}
		b.WriteString("\n")
	}
	return b.String()
}

// brief is the begin of what is told, which may be great.
func brief(x any) string {
	s := fmt.Sprintf("%+v", x)
	return s[:min(len(s), 300)]
}

// gathers fails, if files do not have some nodes, told a line each.
func gathers(t *testing.T, want string, l ...api.Source) {
	t.Helper()
	nodes, file, at, e := gather.Nodes(l)
	if spelt(nodes) != want || file != 0 || at != 0 || e != api.OK {
		t.Errorf("Nodes(%s): %q %d %d %d, not %q", brief(l), spelt(nodes), file, at, e, want)
	}
	if !gather.Right(nodes) {
		t.Errorf("Nodes(%s) are not right", brief(l))
	}
	for i, n := range nodes {
		if got := gather.Find(nodes, n.Name); got != i {
			t.Errorf("Find(%s) in %s: %d, not %d", n.Name, brief(nodes), got, i)
		}
	}
}

// refused fails, if files are not refused with a file, a place and an error.
func refused(t *testing.T, file, at int, e api.Errno, l ...api.Source) {
	t.Helper()
	nodes, gotFile, gotAt, gotE := gather.Nodes(l)
	if len(nodes) != 0 || gotFile != file || gotAt != at || gotE != e {
		t.Errorf("Nodes(%s): %s %d %d %d, not %d %d %d", brief(l), brief(nodes), gotFile, gotAt, gotE, file, at, e)
	}
}

// 16.1: names that are defined once, twice in one file, in several; their definitions in order; resources.
func TestNodes(t *testing.T) {
	gathers(t, "x: 1, int\ny: 2\n", source("a", "x: 1; y: 2;"), source("b", "x: int;")) // the chapter's example
	gathers(t, "")
	gathers(t, "", source("a", ""))
	gathers(t, "", source("a", " # x: 1;\n"), source("b", ""))
	gathers(t, "x: 1\n", source("a", "x: 1;"))
	gathers(t, "x: 1\n", source("a", ""), source("b", "x: 1;"), source("c", ""))
	gathers(t, "resource x: 1\n", source("a", "resource x: 1;"))
	gathers(t, "x: 2, 1, 2\n", source("a", "x: 2; x: 1; x: 2;"))
	gathers(t, "x: 2, 1, 3, 0, 2\n", source("a", "x: 2; x: 1;"), source("b", "x: 3;"), source("c", ""), source("d", "x: 0; x: 2;"))
	gathers(t, "a: 2\nb: 4\nc: 1\nz: 3\n", source("a", "c: 1; a: 2; z: 3; b: 4;"))
	gathers(t, "a: 1, 5\na0: 2\na_: 3\naa: 4\nb: 0\n", source("a", "b: 0; aa: 4; a_: 3; a: 1;"), source("b", "a0: 2; a: 5;"))
	gathers(t, "a: b\nb: a\nc: c & none\n", source("z0", "c: c & none;"), source("z_", "b: a; a: b;"))
	gathers(t, "resource net: {n: 4;}\nresource web: {n: net.n;}\n", source("main", "resource web: {n: net.n;}; resource net: {n: 4;};"))
	// A name's files have nothing to do with the names in them.
	gathers(t, "a: 1\nb: 2\n", source("a", "b: 2;"), source("b", "a: 1;"))
	gathers(t, "x: 1\n", source("x", "x: 1;"))
	for _, c := range []struct{ first, second, third, want string }{
		{"resource x: 1;", "x: 2;", "x: 3;", "resource x: 1, 2, 3\n"}, {"x: 1;", "resource x: 2;", "x: 3;", "resource x: 1, 2, 3\n"}, {"x: 1;", "x: 2;", "resource x: 3;", "resource x: 1, 2, 3\n"},
		{"x: 1;", "x: 2;", "x: 3;", "x: 1, 2, 3\n"}, {"resource x: 1;", "resource x: 2;", "resource x: 3;", "resource x: 1, 2, 3\n"}, {"resource y: 1;", "x: 2;", "y: 3;", "x: 2\nresource y: 1, 3\n"},
	} {
		gathers(t, c.want, source("a", c.first), source("b", c.second), source("c", c.third))
		gathers(t, c.want, source("a", c.first+c.second), source("b", c.third))
		gathers(t, c.want, source("a", c.first), source("b", c.second+c.third))
		gathers(t, c.want, source("a", c.first+c.second+c.third))
	}
}

// 16.1: the fields of nodes, one by one.
func TestFields(t *testing.T) {
	nodes, _, _, _ := gather.Nodes([]api.Source{source("a", "resource web: {n: net.n; ...}; net: >=1;"), source("b", "net: 4 | 5;")})
	if len(nodes) != 2 || nodes[0].Name != "net" || nodes[0].Res || nodes[1].Name != "web" || !nodes[1].Res || len(nodes[0].Defs) != 2 || len(nodes[1].Defs) != 1 {
		t.Fatalf("Nodes: %+v", nodes)
	}
	for s, e := range map[string]api.Expr{">=1": nodes[0].Defs[0], "4 | 5": nodes[0].Defs[1], "{n: net.n; ...}": nodes[1].Defs[0]} {
		if !expr.Same(e, read(t, s)) {
			t.Errorf("%+v, not %s", e, s)
		}
	}
}

// 16.1: no files, as many as there may be, and more, whatever is in them.
func TestFiles(t *testing.T) {
	gathers(t, "")
	gathers(t, "", []api.Source{}...)
	gathers(t, "x: 1"+strings.Repeat(", 1", 30)+"\n", files(31, "x: 1;")...)
	gathers(t, "x: 1"+strings.Repeat(", 1", 31)+"\n", files(32, "x: 1;")...)
	for _, n := range []int{33, 34, 1000, 1 << 16} {
		refused(t, 0, 0, api.ErrLong, files(n, "x: 1;")...)
		refused(t, 0, 0, api.ErrLong, make([]api.Source, n)...)
		refused(t, 0, 0, api.ErrLong, files(n, "x: ;")...)
	}
	for at := range 33 {
		l := files(33, "x: 1;")
		l[at] = source("", "$")
		refused(t, 0, 0, api.ErrLong, l...)
	}
}

// 16.1: names of files that are none, come twice, or do not rise, at each place, beside texts that are refused ahead and behind.
func TestNames(t *testing.T) {
	wrong := []string{"", "A", "a.b", "9", "_", "a b", "é", "\xff", "f.txt", "abcdefghijklmnopq", "any", "bool", "computed", "false", "int", "none", "resource", "string", "true", strings.Repeat("z", 1<<16)}
	for _, n := range []int{1, 2, 3, 32} {
		for at := range n {
			names := wrong
			if at > 0 {
				names = slices.Concat(wrong, []string{fmt.Sprintf("f%02d", at-1), "f00", "f", "a", "e99"})
			}
			for _, s := range names {
				for _, c := range []string{"x: 1;", "", "x: ;", "$"} {
					l := files(n, c)
					l[at].Name = s
					refused(t, at, 0, api.ErrArg, l...)
				}
				for other := range n {
					l := files(n, "x: 1;")
					l[at].Name, l[other].Text = s, "x: 1; y: ;"
					refused(t, at, 0, api.ErrArg, l...)
				}
			}
		}
	}
	for s, want := range map[string]int{"a b c": -1, "a a": 1, "b a": 1, "a c b": 2, "a c b d": 2, "a b b": 2, "a b a": 2, "aa a": 1, "a aa": -1, "a_ a0": 1, "a0 a_": -1, "a9 a10": 1, "c b a": 1, "a int": 1, "true b": 0, "a z z int": 2, "a int a": 1} {
		var l []api.Source
		for _, s := range strings.Fields(s) {
			l = append(l, source(s, "x: 1;"))
		}
		if want >= 0 {
			refused(t, want, 0, api.ErrArg, l...)
		} else {
			gathers(t, "x: 1"+strings.Repeat(", 1", len(l)-1)+"\n", l...)
		}
	}
}

// faults are texts that parse refuses, with the places and the errors.
func faults() []struct {
	text string
	at   int
	e    api.Errno
} {
	type fault = struct {
		text string
		at   int
		e    api.Errno
	}
	return []fault{
		{"x: 1", 4, api.ErrSyntax}, {"int: 1;", 0, api.ErrSyntax}, {"x: 1; y: ;", 9, api.ErrSyntax}, {"x: 007;", 3, api.ErrToken}, {"x: 1; \xff", 6, api.ErrToken}, {"x: 9007199254740993;", 3, api.ErrOver},
		{"x: {a: 1; a: 2;};", 10, api.ErrThere}, {"x: " + strings.Repeat("(", 17), 19, api.ErrDepth}, {"y: 1; x: 1" + strings.Repeat("+1", 16) + ";", 9, api.ErrDepth},
		{"x: \"" + strings.Repeat("x", 257) + "\";", 3, api.ErrLong}, {"x: a" + strings.Repeat(".a", 16) + ";", 35, api.ErrLong}, {strings.Repeat("x:1;", 257), 1024, api.ErrLong}, {strings.Repeat(" ", 4097), 0, api.ErrLong},
	}
}

// 16.1: a text that parse refuses, in each file, with each of its errors; the first one is told, with the file.
func TestFaults(t *testing.T) {
	for _, f := range faults() {
		if _, at, e := parse.Parse(f.text); at != f.at || e != f.e {
			t.Fatalf("Parse(%.50q): %d %d, not %d %d", f.text, at, e, f.at, f.e)
		}
		for _, n := range []int{1, 2, 32} {
			for at := range n {
				l := files(n, "x: 1; resource y: x;")
				l[at].Text = f.text
				refused(t, at, f.at, f.e, l...)
				for _, g := range faults() {
					for behind := at + 1; behind < n; behind += 7 {
						l[behind].Text = g.text
						refused(t, at, f.at, f.e, l...)
					}
				}
			}
		}
		// Names that are too many are told behind a text that is refused, wherever that is.
		refused(t, 2, f.at, f.e, source("a", defined(0, 256)), source("b", defined(256, 10)), source("c", f.text))
		refused(t, 0, f.at, f.e, source("a", f.text), source("b", defined(0, 256)), source("c", defined(256, 10)))
	}
}

// 16.1: as many names as there may be, and more, in one file and in several, beside names that come twice.
func TestManyNames(t *testing.T) {
	for _, n := range []int{255, 256} {
		if nodes, file, at, e := gather.Nodes([]api.Source{source("a", defined(0, n))}); len(nodes) != n || file != 0 || at != 0 || e != api.OK || !gather.Right(nodes) {
			t.Errorf("Nodes of %d names in one file: %d, %d %d %d", n, len(nodes), file, at, e)
		}
	}
	refused(t, 0, len(defined(0, 256)), api.ErrLong, source("a", defined(0, 257))) // a file may have no more definitions
	for _, n := range []int{2, 3, 7, 32} {
		for _, names := range []int{255, 256, 257, 258, 288} {
			l := files(n, "")
			for i := range n {
				l[i].Text = defined(i*names/n, (i+1)*names/n-i*names/n)
			}
			for twice := range n {
				l := slices.Clone(l)
				if names <= 256 && n > 2 {
					l[twice].Text += "n0: 1; resource n255: 2; n3: 3;" // names that are there already, but for n255
				}
				nodes, file, at, e := gather.Nodes(l)
				switch want := len(distinct(t, l)); {
				case want > 256 && (len(nodes) != 0 || file != n || at != 0 || e != api.ErrLong):
					t.Errorf("Nodes of %d names in %d files: %d, %d %d %d", want, n, len(nodes), file, at, e)
				case want <= 256 && (len(nodes) != want || file != 0 || at != 0 || e != api.OK || !gather.Right(nodes)):
					t.Errorf("Nodes of %d names in %d files: %d, %d %d %d", want, n, len(nodes), file, at, e)
				}
			}
		}
	}
	full := defined(0, 256)
	refused(t, 2, 0, api.ErrLong, source("a", full), source("b", "m: 1;"))
	refused(t, 2, 0, api.ErrLong, source("a", "m: 1;"), source("b", full))
	refused(t, 3, 0, api.ErrLong, source("a", full), source("b", ""), source("c", "n0: 1; m: 2; n0: 3;"))
	refused(t, 32, 0, api.ErrLong, append(files(31, full), source("g", "n255: 1; n256: 2;"))...)
	gathers(t, everywhere(32), files(32, full)...)
	if nodes, _, _, e := gather.Nodes([]api.Source{source("a", full), source("b", "resource n7: int; n0: 1;")}); e != api.OK || len(nodes) != 256 || !nodes[gather.Find(nodes, "n7")].Res || len(nodes[gather.Find(nodes, "n0")].Defs) != 2 {
		t.Errorf("Nodes of 256 names, two of which come twice: %d, %d", len(nodes), e)
	}
}

// distinct are the names that files define, none of them twice.
func distinct(t *testing.T, l []api.Source) []string {
	t.Helper()
	var names []string
	for _, s := range l {
		decls, _, e := parse.Parse(s.Text)
		if e != api.OK {
			t.Fatalf("Parse(%q): %d", s.Text, e)
		}
		for _, d := range decls {
			names = append(names, d.Name)
		}
	}
	slices.Sort(names)
	return slices.Compact(names)
}

// everywhere is how the nodes n0 to n255 are told that so many files define.
func everywhere(n int) string {
	var lines []string
	for i := range 256 {
		lines = append(lines, fmt.Sprintf("n%d: %d", i, i)+strings.Repeat(fmt.Sprintf(", %d", i), n-1)+"\n")
	}
	slices.SortFunc(lines, func(a, b string) int {
		return strings.Compare(a[:strings.Index(a, ":")], b[:strings.Index(b, ":")])
	})
	return strings.Join(lines, "")
}

// R5, LANGUAGE 7: what is answered is new each time, shares no list within itself, and what was handed in stays as it is; nothing lies behind its end that is looked at.
func TestMemory(t *testing.T) {
	const text = "x: a.b | {y: 1;}; y: a.b & 2; x: a.b;"
	l := []api.Source{source("a", text), source("b", text), source("", "$")}
	was := slices.Clone(l)
	nodes, _, _, e := gather.Nodes(l[:2])
	want := spelt(nodes)
	if e != api.OK || want != "x: a.b | {y: 1;}, a.b, a.b | {y: 1;}, a.b\ny: a.b & 2, a.b & 2\n" || !slices.Equal(l, was) {
		t.Errorf("Nodes: %q %d, of %v", want, e, l)
	}
	nodes[0].Defs[1].Path[0], nodes[0].Defs[0].Kids[0].Path[1] = "spoilt", "spoilt"
	nodes[0].Defs = append(nodes[0].Defs, api.Expr{})
	if s := spelt(nodes[1:]); s != "y: a.b & 2, a.b & 2\n" {
		t.Errorf("two nodes share memory: %q", s)
	}
	if s, _ := show.Expr(nodes[0].Defs[2]); s != "a.b | {y: 1;}" {
		t.Errorf("two definitions share memory: %q", s)
	}
	if nodes, _, _, _ := gather.Nodes(l[:2]); spelt(nodes) != want {
		t.Errorf("Nodes: %q, not %q", spelt(nodes), want)
	}
}
