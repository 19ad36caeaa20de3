package memo_test

import (
	"slices"
	"strconv"
	"testing"

	"treillage/api"
	"treillage/book"
	"treillage/disk"
	"treillage/entry"
	"treillage/memo"
)

// model is a memo by the chapter's words: a book, and a list that is gone through from end to end.
type model struct {
	d *disk.Disk
	b *book.Book
	l []api.Entry
}

// open opens the model.
func (m *model) open() api.Errno {
	b, e := book.Open(m.d, "log")
	m.b, m.l = b, nil
	for _, s := range b.Texts() {
		if x, e := entry.Decode(s); e == fine {
			m.l = append(m.l, x)
		}
	}
	return e
}

func (m *model) get(key string) []api.Entry {
	var l []api.Entry
	for _, x := range m.l {
		if x.Key == key {
			l = append([]api.Entry{x}, l...)
		}
	}
	return l
}

func (m *model) put(x api.Entry) api.Errno {
	s, e := entry.Encode(x)
	if e != fine || slices.ContainsFunc(m.l, func(y api.Entry) bool { return same(x, y) }) {
		return e
	}
	if e := m.b.Append(s); e != fine {
		return e
	}
	m.l = append(m.l, x)
	return fine
}

func (m *model) keep(most int) api.Errno {
	from := max(0, len(m.l)-max(most, 0))
	var l []string
	for _, x := range m.l[from:] {
		l = append(l, written(x))
	}
	if e := m.b.Rewrite(l); e != fine {
		return e
	}
	m.l = m.l[from:]
	return fine
}

// both are a memo and its model, each with a disk of its own, to which the same is done.
type both struct {
	d     *disk.Disk
	m     *memo.Memo
	by    *model
	slots int
}

// open opens both, and tells whether neither is refused.
func (x *both) open(t *testing.T) bool {
	t.Helper()
	m, e := memo.Open(x.d, "log", x.slots)
	if f := x.by.open(); e != f || (m == nil) != (f != fine) {
		t.Fatalf("Open: %d, not %d", e, f)
	}
	x.m = m
	return e == fine
}

// step is a rolled call of the memo, or one of the disk beside it.
func (x *both) step(roll *dice) (string, api.Errno, api.Errno) {
	key, n, keep := string("abc"[roll.roll(3)]), roll.roll(3), roll.roll(60)-1
	switch roll.roll(12) {
	case 0, 1, 2, 3, 4:
		y := kept(key, n)
		return "Put(" + keys([]api.Entry{y}) + ")", x.m.Put(y), x.by.put(y)
	case 5, 6:
		return "Sync", x.m.Sync(), x.by.b.Sync()
	case 7, 8:
		most := roll.roll(8) - 1
		return "Keep(" + strconv.Itoa(most) + ")", x.m.Keep(most), x.by.keep(most)
	case 9:
		n := 1 + roll.roll(6)
		x.d.Fuse(n, keep)
		x.by.d.Fuse(n, keep)
		return "Fuse(" + strconv.Itoa(n) + ", " + strconv.Itoa(keep) + ")", fine, fine
	case 10:
		return "a spare file", x.d.Append("spare", key), x.by.d.Append("spare", key)
	default:
		y := broken()[roll.roll(4)]
		return "Put of what is not right", x.m.Put(y), x.by.put(y)
	}
}

// same fails, if the memo or its disk is not as the model.
func (x *both) same(t *testing.T, what string) {
	t.Helper()
	if got, want := told(x.d), told(x.by.d); got != want {
		t.Fatalf("%s: the disk is %s, not %s", what, got, want)
	}
	if x.m == nil {
		return
	}
	has(t, what, x.m, x.by.l...)
	for _, key := range []string{"a", "b", "c", "d"} {
		gets(t, x.m, key, x.by.get(key)...)
	}
}

// 26.1, 26.2: rolled calls, cut off at any operation, woken with any keeps, and opened anew, held against the chapter's words behind each.
func TestRolled(t *testing.T) {
	answers := map[api.Errno]int{}
	for i := range 1500 {
		roll := new(dice(i))
		x := &both{d: disk.New(), by: &model{d: disk.New()}, slots: []int{1, 2, 3, mostSlots}[roll.roll(4)]}
		s := ""
		for range roll.roll(5) {
			s += record([]string{"junk", "", written(kept("a", 1)), written(kept("b", 2)), written(short("c"))}[roll.roll(5)])
		}
		s += []string{"", "", "x", "\xa5\x01"}[roll.roll(4)]
		does(t, x.d.Load("log", s), x.by.d.Load("log", s))
		up := x.open(t)
		x.same(t, "Open")
		for range 30 {
			if up {
				what, e, f := x.step(roll)
				answers[e]++
				if e != f {
					t.Fatalf("%s: %d, not %d", what, e, f)
				}
				x.same(t, what)
			}
			if up = !x.d.Down() && roll.roll(20) > 0; !up {
				keeps := []int{roll.roll(90), roll.roll(90)}
				x.d.Wake(keeps...)
				x.by.d.Wake(keeps...)
				if n := roll.roll(12); n < 5 {
					x.d.Fuse(n, 1)
					x.by.d.Fuse(n, 1)
				}
				up = x.open(t)
				x.same(t, "Open")
			}
		}
	}
	for _, e := range []api.Errno{fine, refuse, off} {
		if answers[e] < 1000 {
			t.Errorf("only %d calls answered %d", answers[e], e)
		}
	}
}

// plans are what is done to memos whose files begin with some texts: entries are put, a number keeps as many, and nil syncs.
func plans() [][]any {
	a, b, c := kept("a", 1), short("b"), kept("a", 2)
	return [][]any{
		{a, nil, b, c, nil, short("d")},
		{a, b, c, 2, short("d"), a},
		{b, a, nil, c, 9, nil, b, 0, a},
		{b, 0, 1, a, a, nil, 1, 1, c, b},
		{b, short("c"), short("d"), nil, short("e"), 3, short("f"), 1},
	}
}

// lost is what a memo had when its disk was cut off.
type lost struct {
	l    []api.Entry
	sure int         // how many of them were there at the last Sync or Keep that was answered OK, or when it was opened
	put  []api.Entry // what was being put, if something was
	keep []api.Entry // what was being kept, if something was
	anew bool
}

// done does a plan up to the first refusal, and tells what the memo had then.
func done(t *testing.T, p []any, d *disk.Disk) (had lost) {
	t.Helper()
	m := opened(t, d, 2)
	had.l, had.sure = m.All(), m.Len()
	for _, a := range p {
		var e api.Errno
		had = lost{l: m.All(), sure: had.sure}
		switch x := a.(type) {
		case api.Entry:
			had.put = []api.Entry{x}
			e = m.Put(x)
		case int:
			had.keep, had.anew = had.l[max(0, len(had.l)-x):], true
			if e = m.Keep(x); e == fine {
				had.sure = m.Len()
			}
		default:
			if e = m.Sync(); e == fine {
				had.sure = m.Len()
			}
		}
		if e != fine {
			answered(t, "refused", e, off)
			return had
		}
	}
	return lost{l: m.All(), sure: had.sure}
}

// may tells whether a memo may have these entries behind a loss.
func (x lost) may(l []api.Entry) bool {
	if x.anew && equal(l, x.keep) {
		return true
	}
	all := append(slices.Clone(x.l), x.put...)
	return len(l) >= x.sure && len(l) <= len(all) && equal(l, all[:len(l)])
}

// 26.3: a loss of power at each operation, whatever comes of an Append that is cut off, and each front of what waited.
func TestLoss(t *testing.T) {
	fewer, anew, had, ends := 0, 0, 0, 0
	for _, p := range plans() {
		for _, begin := range [][]string{nil, {"junk", written(kept("c", 7)), ""}} {
			for n := 1; n <= 16; n++ {
				for _, keep := range []int{-1, 0, 5, 14, 30, many} {
					for stay := range 110 {
						d := laid(t, begin...)
						d.Fuse(n, keep)
						x := done(t, p, d)
						down := d.Down()
						d.Wake(stay, stay)
						m := opened(t, d, 3)
						l := m.All()
						if !x.may(l) {
							t.Fatalf("cut off at %d with %d, woken with %d: %s of %s, %d sure", n, keep, stay, keys(l), keys(x.l), x.sure)
						}
						for i, y := range l {
							if !slices.ContainsFunc(m.Get(y.Key), func(z api.Entry) bool { return same(y, z) }) {
								t.Fatalf("%d is not found by its key", i)
							}
						}
						switch {
						case !down:
							ends++
						case x.anew && equal(l, x.keep):
							anew++
						case len(l) < len(x.l):
							fewer++
						default:
							had++
						}
					}
				}
			}
		}
	}
	for _, n := range []int{fewer, anew, had, ends} {
		if n < 500 {
			t.Errorf("too few losses of a kind: %d, %d, %d, %d", fewer, anew, had, ends)
		}
	}
}
