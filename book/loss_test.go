package book_test

import (
	"slices"
	"strconv"
	"strings"
	"testing"

	"treillage/api"
	"treillage/book"
	"treillage/disk"
)

// model is a book by the chapter's words, done to a disk of its own step by step.
type model struct {
	d     *disk.Disk
	file  string
	texts []string
	sure  int
}

// split is the texts of the right records of some bytes that have no records but of some texts, and whether other bytes stand behind them.
func split(s string, known []string) (l []string, behind bool) {
next:
	for s != "" {
		for _, x := range known {
			if rest, ok := strings.CutPrefix(s, record(x)); ok {
				s, l = rest, append(l, x)
				continue next
			}
		}
		return l, true
	}
	return l, false
}

func (m *model) open(known []string) api.Errno {
	if m.d.Down() {
		return off
	}
	m.texts, m.sure = nil, 0
	if slices.Contains(m.d.Names(), "spare") {
		if e := m.d.Remove("spare"); e != fine {
			return e
		}
	}
	s, _ := m.d.Read(m.file)
	l, behind := split(s, known)
	if behind {
		return m.rewrite(l)
	}
	m.texts = l
	for m.sure < len(l) && len(records(l[:m.sure+1]...)) <= m.d.Sure(m.file) {
		m.sure++
	}
	return fine
}

func (m *model) append(s string) api.Errno {
	if len(s) > longest {
		return long
	}
	e := m.d.Append(m.file, record(s))
	if e == fine {
		m.texts = append(m.texts, s)
	}
	return e
}

func (m *model) sync() api.Errno {
	if m.sure == len(m.texts) {
		return fine
	}
	e := m.d.Sync(m.file)
	if e == fine {
		m.sure = len(m.texts)
	}
	return e
}

func (m *model) rewrite(l []string) api.Errno {
	for _, s := range l {
		if len(s) > longest {
			return long
		}
	}
	if slices.Contains(m.d.Names(), "spare") {
		if e := m.d.Remove("spare"); e != fine {
			return e
		}
	}
	if len(l) == 0 {
		if e := m.d.Append("spare", ""); e != fine {
			return e
		}
	}
	for _, s := range l {
		if e := m.d.Append("spare", record(s)); e != fine {
			return e
		}
	}
	if e := m.d.Sync("spare"); e != fine {
		return e
	}
	if e := m.d.Rename("spare", m.file); e != fine {
		return e
	}
	m.texts, m.sure = slices.Clone(l), len(l)
	return fine
}

// dice are numbers that have no order to be seen.
type dice uint32

// roll is a number from 0 up to below n.
func (d *dice) roll(n int) int {
	*d = *d*1664525 + 1013904223
	return int(uint32(*d)>>8) % n
}

// known are the texts that rolled books have.
var known = []string{"", "a", "bc", "\xa5\x00", strings.Repeat("d", 130)}

// rolled are some of the known texts.
func rolled(d *dice) []string {
	var l []string
	for range d.roll(4) {
		l = append(l, known[d.roll(len(known))])
	}
	return l
}

// both are a book and its model, each with a disk of its own, to which the same is done.
type both struct {
	d *disk.Disk
	b *book.Book
	m *model
}

// open opens both, and tells whether neither is refused.
func (x *both) open(t *testing.T) bool {
	t.Helper()
	b, e := book.Open(x.d, "log")
	if f := x.m.open(known); e != f || (b == nil) != (f != fine) {
		t.Fatalf("Open: %d, not %d", e, f)
	}
	x.b = b
	return e == fine
}

// step is a rolled call of the book, or one of the disk beside it.
func (x *both) step(roll *dice) (string, api.Errno, api.Errno) {
	s, n, keep := known[roll.roll(len(known))], 1+roll.roll(6), roll.roll(12)-1
	switch roll.roll(12) {
	case 0, 1, 2, 3, 4:
		return "Append(" + s + ")", x.b.Append(s), x.m.append(s)
	case 5, 6:
		return "Sync", x.b.Sync(), x.m.sync()
	case 7, 8:
		l := rolled(roll)
		return "Rewrite(" + strings.Join(l, " ") + ")", x.b.Rewrite(l), x.m.rewrite(l)
	case 9:
		x.d.Fuse(n, keep)
		x.m.d.Fuse(n, keep)
		return "Fuse(" + strconv.Itoa(n) + ", " + strconv.Itoa(keep) + ")", fine, fine
	case 10:
		return "a spare file", x.d.Append("spare", s), x.m.d.Append("spare", s)
	default:
		s = strings.Repeat("x", longest+1)
		return "too long", x.b.Append(s), x.m.append(s)
	}
}

// same fails, if the book or its disk is not as the model.
func (x *both) same(t *testing.T, what string) {
	t.Helper()
	if got, want := told(x.d), told(x.m.d); got != want {
		t.Fatalf("%s: the disk is %s, not %s", what, got, want)
	}
	if x.b != nil && (!slices.Equal(x.b.Texts(), x.m.texts) || x.b.Sure() != x.m.sure) {
		t.Fatalf("%s: the texts %q, %d sure, not %q, %d", what, x.b.Texts(), x.b.Sure(), x.m.texts, x.m.sure)
	}
}

// 24.1, 24.2: rolled calls, cut off at any operation, woken with any keeps, and opened anew, held against the chapter's words behind each.
func TestRolled(t *testing.T) {
	came := map[api.Errno]int{}
	for i := range 3000 {
		roll := new(dice(i))
		x := &both{d: disk.New(), m: &model{d: disk.New(), file: "log"}}
		if roll.roll(2) == 0 {
			s := records(rolled(roll)...) + []string{"", "", "x", "\xa5\x01"}[roll.roll(4)]
			does(t, x.d.Load("log", s), x.m.d.Load("log", s))
		}
		up := x.open(t)
		for range 40 {
			if up {
				what, e, f := x.step(roll)
				came[e]++
				if e != f {
					t.Fatalf("%s: %d, not %d", what, e, f)
				}
				x.same(t, what)
			}
			if up = !x.d.Down() && roll.roll(20) > 0; !up {
				keeps := []int{roll.roll(20), roll.roll(20)}
				x.d.Wake(keeps...)
				x.m.d.Wake(keeps...)
				if n := roll.roll(12); n < 5 {
					x.d.Fuse(n, 1)
					x.m.d.Fuse(n, 1)
				}
				up = x.open(t)
				x.same(t, "Open")
			}
		}
	}
	for _, e := range []api.Errno{fine, long, off} {
		if came[e] < 1000 {
			t.Errorf("only %d calls answered %d", came[e], e)
		}
	}
}

// plan is what is done to a book whose file begins with some bytes, of which the front is sure.
type plan struct {
	sure, waits string
	acts        []any // a text is appended, a list written anew, and nil syncs
}

func plans() []plan {
	return []plan{
		{"", "", []any{"a", nil, "b", "cd", nil, "e"}},
		{records("a", "b"), record("c"), []any{"d", nil, []string{"b", "c"}, "e", nil}},
		{record("a"), record("b"), []any{[]string{"x", "y", "z"}, "w", []string{}, "v"}},
		{record("a"), record("b") + "junk", []any{"c", []string{"c"}, nil, "d"}},
		{"", "junk", []any{"a", nil, []string{}, "b", nil}},
		{records("a", "b", "c") + "\xa5\x05", "", []any{[]string{"c"}, []string{"c", "d"}, "e"}},
	}
}

// lost is what a book had when its disk was cut off.
type lost struct {
	texts []string
	sure  int
	anew  []string // what was being written anew, if something was
	under bool
	added string // what was being appended, if something was
	adds  bool
}

// done does a plan up to the first refusal, and tells what the book had then.
func done(t *testing.T, p plan, d *disk.Disk) lost {
	t.Helper()
	s, _ := d.Read("log")
	l, behind := split(s, []string{"a", "b", "c"})
	had := lost{texts: l, anew: l, under: behind}
	for had.sure < len(l) && len(records(l[:had.sure+1]...)) <= len(p.sure) {
		had.sure++
	}
	b, e := book.Open(d, "log")
	for _, a := range p.acts {
		if e != fine {
			break
		}
		had = lost{texts: b.Texts(), sure: b.Sure()}
		switch x := a.(type) {
		case string:
			had.added, had.adds = x, true
			e = b.Append(x)
		case []string:
			had.anew, had.under = x, true
			e = b.Rewrite(x)
		default:
			e = b.Sync()
		}
	}
	switch e {
	case fine:
		return lost{texts: b.Texts(), sure: b.Sure()}
	case off:
		return had
	}
	t.Fatalf("refused: %d", e)
	return lost{}
}

// may tells whether a book may have these texts behind a loss.
func (x lost) may(l []string) bool {
	if x.under && slices.Equal(l, x.anew) {
		return true
	}
	texts := x.texts
	if x.adds {
		texts = append(slices.Clone(texts), x.added)
	}
	return len(l) >= x.sure && len(l) <= len(texts) && slices.Equal(l, texts[:len(l)])
}

// 24.3: a loss of power at each operation, whatever comes of an Append that is cut off, and whatever stays of what waited.
func TestLoss(t *testing.T) {
	fewer, anew, had, ends := 0, 0, 0, 0
	for _, p := range plans() {
		for n := 1; n <= 20; n++ {
			for keep := -1; keep <= 9; keep++ {
				for stay := range 25 {
					for _, spare := range []int{0, 3, many} {
						d := laid(t, p.sure, p.waits)
						d.Fuse(n, keep)
						x := done(t, p, d)
						down := d.Down()
						d.Wake(stay, spare)
						b := opened(t, d, "log")
						l := b.Texts()
						if !x.may(l) {
							t.Fatalf("cut off at %d with %d, woken with %d and %d: %q of %+v", n, keep, stay, spare, l, x)
						}
						has(t, "opened", b, len(l), l...)
						is(t, "opened", d, "log", len(records(l...)), records(l...))
						lone(t, "opened", d, "log")
						switch {
						case !down:
							ends++
						case x.under && slices.Equal(l, x.anew):
							anew++
						case len(l) < len(x.texts):
							fewer++
						default:
							had++
						}
					}
				}
			}
		}
	}
	for _, n := range []int{fewer, anew, had, ends} {
		if n < 100 {
			t.Errorf("too few losses of a kind: %d, %d, %d, %d", fewer, anew, had, ends)
		}
	}
}
