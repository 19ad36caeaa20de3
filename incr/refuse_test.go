package incr_test

import (
	"strconv"
	"strings"
	"testing"

	"treillage/api"
	"treillage/disk"
	"treillage/entry"
	"treillage/memo"
	"treillage/scratch"
)

// full is how many bytes a file may have.
const full = 4194304

// great are nodes of which some have entries that a memo can't have, and some that read these. big has a key that is too long, vast reads more than a record has place for, and wide is what vast reads.
func great() []api.Node {
	one := api.Expr{Op: api.OpInt, N: 1}
	ref := func(s string) api.Expr { return api.Expr{Op: api.OpRef, Path: []string{s}} }
	whole := api.Expr{Op: api.OpKind, N: api.KAny}
	texts := func(sign string, n int) api.Expr {
		return api.Expr{Op: api.OpText, Text: strings.Repeat(sign, n)}
	}
	big := api.Node{Name: "big"}
	for range 140 {
		big.Defs = append(big.Defs, texts("b", 240))
	}
	vast := api.Expr{Op: api.OpJoin, Kids: []api.Expr{whole}}
	var wide []api.Node
	for i := range 9 {
		n := api.Node{Name: "wide" + strconv.Itoa(i)}
		join := api.Expr{Op: api.OpJoin}
		for j := range 32 {
			join.Kids = append(join.Kids, texts(string(rune('A'+j))+strconv.Itoa(i), 128))
		}
		n.Defs = []api.Expr{join}
		wide = append(wide, n)
		vast.Kids = append(vast.Kids, ref(n.Name))
	}
	sum := api.Expr{Op: api.OpAdd, Kids: []api.Expr{ref("last"), one}}
	nodes := []api.Node{big, {Name: "last", Defs: []api.Expr{one}}, {Name: "reads", Defs: []api.Expr{whole, ref("big"), ref("vast")}}, {Name: "sum", Defs: []api.Expr{sum}}, {Name: "vast", Defs: []api.Expr{vast}}}
	return append(nodes, wide...)
}

// 28.2: entries that are too long: for their keys (ErrArg), for a record (ErrLong). They are not kept, nothing tells of it, and what comes behind them is put.
func TestTooLong(t *testing.T) {
	nodes := great()
	for _, s := range []string{"big", "vast"} {
		n := nodes[map[string]int{"big": 0, "vast": 4}[s]]
		x, e := entry.Of(n, plenty, scratchOf{nodes, plenty})
		if e != fine {
			t.Fatalf("%s has no entry: %d", s, e)
		}
		if e, want := onDisk(t, disk.New()).Put(x), map[string]api.Errno{"big": refuse, "vast": 4}[s]; e != want {
			t.Fatalf("%s is refused with %d, not %d", s, e, want)
		}
	}
	m := blank(t)
	w := begun(t, nodes, plenty, m)
	for _, s := range []string{"reads", "sum", "big", "vast", "last"} {
		reads(t, w, s, said(scratch.One(nodes, plenty, s)))
	}
	const wide = "wide0 wide1 wide2 wide3 wide4 wide5 wide6 wide7 wide8"
	tells(t, w, "big "+wide+" vast reads last sum", "", 140+9*33+11+3+1+3)
	has(t, m, 9+1+1+1)
	// What was not kept is evaluated again, each time; what reads it is a hit all the same.
	for range 2 {
		w = begun(t, nodes, plenty, m)
		for _, s := range []string{"reads", "sum", "big", "vast", "last"} {
			reads(t, w, s, said(scratch.One(nodes, plenty, s)))
		}
		tells(t, w, "big vast", wide+" reads last sum", 140+11)
		has(t, m, 9+1+1+1)
	}
}

// scratchOf reads what some nodes come to out of nothing.
type scratchOf struct {
	nodes []api.Node
	fuel  int
}

func (r scratchOf) Read(s string) api.Result { return scratch.One(r.nodes, r.fuel, s) }

// 28.2: a file that has no place for an entry any more (ErrLong): it is not kept, nothing tells of it, and smaller ones behind it are put.
func TestFullFile(t *testing.T) {
	var b strings.Builder
	filler := record(strings.Repeat("x", 65536))
	for b.Len()+2*len(filler) < full {
		b.WriteString(filler)
	}
	// Each has a record of 100 bytes, and a number's three bytes of length.
	left := full - 100 - b.Len()
	b.WriteString(record(strings.Repeat("x", left/2-8)))
	b.WriteString(record(strings.Repeat("x", full-100-b.Len()-8)))
	if b.Len() != full-100 {
		t.Fatalf("%d bytes", b.Len())
	}
	d := disk.New()
	if e := d.Load("memo", b.String()); e != fine {
		t.Fatalf("Load: %d", e)
	}
	m := onDisk(t, d)
	has(t, m, 0)
	n := d.Ops()
	nodes := config(t, "a: b; b: \""+strings.Repeat("x", 99)+"\"; c: 1; d: c;")
	w := begun(t, nodes, plenty, m)
	for _, s := range []string{"a", "c", "d"} {
		reads(t, w, s, said(scratch.One(nodes, plenty, s)))
	}
	tells(t, w, "b a c d", "", 4)
	has(t, m, 2)
	if d.Ops() != n+2 {
		t.Errorf("%d operations", d.Ops()-n)
	}
	w = begun(t, nodes, plenty, m)
	w.All("d", "a")
	tells(t, w, "b a", "c d", 2)
	has(t, m, 2)
}

// 28.2: a disk that is cut off as an entry is put (ErrDown): what is read is as ever, the first error is told, and nothing is put behind it, also if the disk is up again.
func TestDown(t *testing.T) {
	nodes := config(t, "a: b + c; b: 1; c: d; d: 2; e: a;")
	want := saidAll(begun(t, nodes, plenty, blank(t)).All("a", "e"))
	for n := 1; n <= 6; n++ {
		for _, keep := range []int{-1, 0, 7, 1000} {
			d := disk.New()
			m := onDisk(t, d)
			d.Fuse(n, keep)
			w := begun(t, nodes, plenty, m)
			reads(t, w, "a", "3")
			err := map[bool]string{true: "8", false: "0"}[n <= 4]
			if got := told(w); got != "b d c a; ; 6; "+err {
				t.Errorf("cut off at %d: %s", n, got)
			}
			has(t, m, min(n-1, 4))
			if n > 4 {
				continue
			}
			ops := d.Ops()
			if n%2 == 0 {
				d.Wake()
			}
			reads(t, w, "e", "3")
			reads(t, w, "lost", "!23")
			all(t, w, "a", want)
			if got := told(w); got != "b d c a e; ; 7; 8" {
				t.Errorf("cut off at %d: %s", n, got)
			}
			if has(t, m, n-1); d.Ops() != ops || ops != n {
				t.Errorf("cut off at %d: %d operations", n, d.Ops())
			}
		}
	}
	// The first error is told, and not one behind it.
	d := disk.New()
	m := onDisk(t, d)
	d.Fuse(1, 0)
	l := great()
	w := begun(t, l, plenty, m)
	w.All("last", "reads")
	if got := w.Err(); got != off {
		t.Errorf("Err is %d", got)
	}
	// Behind what can't be kept the first that is refused otherwise is told.
	d = disk.New()
	m = onDisk(t, d)
	d.Fuse(1, 0)
	w = begun(t, l, plenty, m)
	if reads(t, w, "big", said(scratch.One(l, plenty, "big"))); w.Err() != fine || d.Ops() != 0 {
		t.Errorf("Err is %d", w.Err())
	}
	if reads(t, w, "sum", "2"); w.Err() != off {
		t.Errorf("Err is %d", w.Err())
	}
}

// 28.2: hits are found, and told of, though the memo refuses what is put.
func TestHitsOfOneThatIsDown(t *testing.T) {
	nodes := config(t, "a: b + c; b: 1; c: 2; d: a;")
	d := disk.New()
	m := onDisk(t, d)
	begun(t, nodes, plenty, m).All("b", "a")
	d.Fuse(1, 0)
	w := begun(t, config(t, "a: b + c; b: 1; c: 1 + 1; d: a;"), plenty, m)
	all(t, w, "d", "a=3 b=1 c=2 d=3")
	if got := told(w); got != "c d; b a; 4; 8" {
		t.Errorf("told is %s", got)
	}
	has(t, m, 3)
}

// 28.3: a disk that is cut off at each entry that is put, and what it has then, in a run behind it.
func TestLoss(t *testing.T) {
	nodes := config(t, "a: b + c; b: d & int; c: b | 7; d: e; e: 2; f: g; g: f; h: f | a;")
	l := []string{"a", "h", "c"}
	want := saidAll(begun(t, nodes, plenty, blank(t)).All(l...))
	evals := begun(t, nodes, plenty, blank(t))
	evals.All(l...)
	order := evals.Evals()
	fewer := 0
	for n := 1; n <= len(order)+1; n++ {
		for _, keep := range []int{0, 5, 1000} {
			for _, stay := range []int{0, 1, 20, 40, 70, 100, 200, 400, 1000} {
				d := disk.New()
				m := onDisk(t, d)
				d.Fuse(n, keep)
				if got := saidAll(begun(t, nodes, plenty, m).All(l...)); got != want {
					t.Fatalf("cut off at %d: settled is %s", n, got)
				}
				d.Wake(stay)
				m = onDisk(t, d)
				kept := m.Len()
				if kept > n {
					t.Fatalf("cut off at %d: %d entries", n, kept)
				}
				if kept < n-1 {
					fewer++
				}
				w := begun(t, nodes, plenty, m)
				if got := saidAll(w.All(l...)); got != want {
					t.Fatalf("behind a cut at %d: settled is %s", n, got)
				}
				if len(w.Evals()) != len(order)-kept || len(w.Hits()) != kept || w.Err() != fine {
					t.Fatalf("behind a cut at %d with %d kept: %s", n, kept, told(w))
				}
				w = begun(t, nodes, plenty, m)
				if got := saidAll(w.All(l...)); got != want || len(w.Evals()) != 0 {
					t.Fatalf("behind all: %s, %s", got, told(w))
				}
			}
		}
	}
	if fewer < 50 {
		t.Errorf("only %d had lost some", fewer)
	}
}

// 28.1, 28.3: memos in whose file other bytes stood at first: no records, records of no entries, entries of other keys, records that are cut short.
func TestForeignBytes(t *testing.T) {
	nodes := config(t, "a: b + c; b: 1; c: d; d: 2; e: e;")
	want := "a=3 b=1 c=2 d=2 e=!24"
	first := disk.New()
	begun(t, nodes, plenty, onDisk(t, first)).All("a", "e")
	s, _ := first.Read("memo")
	half := s[:len(s)/2]
	kept := entries(half)
	other, _ := entry.Encode(api.Entry{Key: "no key", R: came(number(1))})
	for _, c := range []struct {
		bytes string
		hits  int
	}{
		{"", 0}, {"junk", 0}, {"\xa5", 0}, {strings.Repeat("\x00", 10000), 0}, {record(""), 0}, {record("junk") + record(other), 0}, {"junk" + s, 0},
		{s, 5}, {s + "junk", 5}, {record("junk") + s, 5}, {s + record("\xa5") + s, 5}, {record(other) + s + s[:9], 5}, {half, kept}, {half + s, kept},
	} {
		d := disk.New()
		if e := d.Load("memo", c.bytes); e != fine {
			t.Fatalf("Load: %d", e)
		}
		m := onDisk(t, d)
		w := begun(t, nodes, plenty, m)
		all(t, w, "a e", want)
		if len(w.Hits()) != c.hits || len(w.Evals()) != 5-c.hits || w.Err() != fine {
			t.Errorf("behind %q: %s", c.bytes[:min(len(c.bytes), 40)], told(w))
		}
		// What was put is there for the next one, who opens it anew.
		w = begun(t, nodes, plenty, onDisk(t, d))
		all(t, w, "a e", want)
		tells(t, w, "", strings.Join(w.Hits(), " "), 0)
	}
}

// entries is how many entries a memo finds in some bytes.
func entries(s string) int {
	d := disk.New()
	d.Load("memo", s)
	m, _ := memo.Open(d, "memo", 1)
	return m.Len()
}

// R1: entries that no evaluation has made: what is read may be anything, but each name is settled once, and every call ends.
func TestUnsound(t *testing.T) {
	nodes := config(t, "a: b; b: c; c: a + b; d: 1; e: d + 1;")
	var l []api.Entry
	for i, s := range []string{"a", "b", "c", "d", "e"} {
		k := keyOf(t, nodes, plenty, s)
		for _, deps := range []string{"a=1 b=1 c=1", "e=1 d=1 c=1 b=1 a=!24", "lost=!23 a=!24 b=!24 c=!24 d=!24 e=!24", "d=5", "zz=5"} {
			l = append(l, tagged(k, deps, i), tagged(k, deps+" any2=!23", 9), tagged(k, "a=!24 b=!24 c=!24 d=1 e=2", 1))
		}
		l = append(l, api.Entry{Key: k, Deps: []api.Dep{dep("d", came(text("x"))), dep("nobody", wrong(63))}, R: wrong(63), Steps: mostFuel})
	}
	for i := range 3000 {
		d := new(dice(i))
		m := blank(t)
		for range d.roll(12) {
			put(t, m, l[d.roll(len(l))])
		}
		w := begun(t, nodes, plenty, m)
		for range 2 {
			for range d.roll(8) {
				s := []string{"a", "b", "c", "d", "e", "lost"}[d.roll(6)]
				if got, again := said(w.Read(s)), said(w.Read(s)); got != again {
					t.Fatalf("%s is read as %s, then as %s", s, got, again)
				}
			}
			seen := map[string]bool{}
			for _, s := range append(w.Evals(), w.Hits()...) {
				if seen[s] {
					t.Fatalf("%s is settled twice", s)
				}
				seen[s] = true
			}
			if n := len(w.All()); n != len(seen) {
				t.Fatalf("%d are settled, %d were", n, len(seen))
			}
		}
	}
}

// R1: the longest chain of nodes, each as deep as may be, read from its end; evaluated and found.
func TestLongChain(t *testing.T) {
	var nodes []api.Node
	for i := range 256 {
		e := api.Expr{Op: api.OpRef, Path: []string{"n" + strconv.Itoa(1001+i)}}
		if i == 255 {
			e = api.Expr{Op: api.OpInt, N: 1}
		}
		for range 15 {
			e = api.Expr{Op: api.OpMul, Kids: []api.Expr{e, {Op: api.OpInt, N: 1}}}
		}
		nodes = append(nodes, api.Node{Name: "n" + strconv.Itoa(1000+i), Defs: []api.Expr{e}})
	}
	m := blank(t)
	w := begun(t, nodes, plenty, m)
	reads(t, w, "n1000", "1")
	if len(w.Evals()) != 256 || w.Evals()[0] != "n1255" || w.Steps() != 256*31 {
		t.Errorf("%d evals, %d steps", len(w.Evals()), w.Steps())
	}
	w = begun(t, nodes, plenty, m)
	reads(t, w, "n1000", "1")
	if len(w.Hits()) != 256 || w.Hits()[255] != "n1000" || w.Steps() != 0 || len(w.All("n1100")) != 256 {
		t.Errorf("%d hits", len(w.Hits()))
	}
}
