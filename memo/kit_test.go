package memo_test

import (
	"fmt"
	"math"
	"slices"
	"strconv"
	"strings"
	"testing"

	"treillage/api"
	"treillage/book"
	"treillage/disk"
	"treillage/entry"
	"treillage/frame"
	"treillage/memo"
)

// OK and the errors by their numbers.
const (
	fine   = 0
	refuse = 1
	long   = 4
	off    = 8
)

const (
	mostSlots = 1024
	mostBytes = 65536   // how many bytes an entry may have
	full      = 4194304 // how many bytes a file may have
	many      = 1 << 40 // more than there are of anything
)

// number, text, came, wrong and dep are short for what entries are made of.
func number(n int) api.Term                 { return api.Term{Kind: 2, Lo: n, Hi: n} }
func text(s string) api.Term                { return api.Term{Kind: 3, Text: s} }
func came(l ...api.Term) api.Result         { return api.Result{V: api.Value{Terms: l}} }
func wrong(e api.Errno) api.Result          { return api.Result{E: e} }
func dep(name string, r api.Result) api.Dep { return api.Dep{Name: name, R: r} }

// closed is a struct of one field.
func closed(name string, l ...api.Term) api.Term {
	return api.Term{Kind: 4, Fields: []api.Field{{Name: name, V: api.Value{Terms: l}}}}
}

// kept is an entry of a key that came to a number, having read a struct.
func kept(key string, n int) api.Entry {
	return api.Entry{Key: key, Deps: []api.Dep{dep("b", came(closed("n", number(n), text("x")))), dep("a", wrong(24))}, R: came(closed("m", number(n))), Steps: 3}
}

// short is an entry of few bytes.
func short(key string) api.Entry { return api.Entry{Key: key, R: wrong(24)} }

// written is an entry's bytes.
func written(x api.Entry) string {
	s, e := entry.Encode(x)
	if e != fine {
		panic("this one is not right")
	}
	return s
}

// record is a text's record.
func record(s string) string {
	r, e := frame.Put(s)
	if e != fine {
		panic("this one is too long")
	}
	return r
}

// sized is a right entry of just so many bytes, from some 60,000 on.
func sized(t *testing.T, n int) api.Entry {
	t.Helper()
	x := api.Entry{Key: "k", R: wrong(24)}
	for i := range 130 {
		x.Deps = append(x.Deps, dep("n"+strconv.Itoa(i), came(text(strings.Repeat("t", 256)))))
	}
	x.Key = strings.Repeat("k", 1+n-len(written(x))-2)
	return x
}

// broken are entries that are not right.
func broken() []api.Entry {
	return []api.Entry{{}, {Key: strings.Repeat("k", 32769)}, {Key: "k", Steps: -1}, {Key: "k", Steps: 1048577}, {Key: "k", Steps: math.MinInt}, {Key: "k", R: wrong(64)}, {Key: "k", R: came(number(1<<53 + 1))}, {Key: "k", Deps: []api.Dep{dep("int", came())}}, {Key: "k", Deps: []api.Dep{dep("a", came()), dep("a", came())}}, {Key: "k", Deps: []api.Dep{dep("a", wrong(-1))}}, {Key: "k", Deps: make([]api.Dep, 300)}}
}

// foreign are texts that are no entry's.
func foreign() []string {
	s := written(short("a"))
	return []string{"", "junk", "\x00", s + "\x00", s[:len(s)-1], "\x80" + s, strings.Repeat("x", mostBytes), written(kept("k", 1))[1:]}
}

// alike tells whether two values have the same terms.
func alike(a, b api.Value) bool {
	return slices.EqualFunc(a.Terms, b.Terms, func(s, t api.Term) bool {
		same := s.Kind == t.Kind && s.Lo == t.Lo && s.Hi == t.Hi && s.Text == t.Text && s.Any == t.Any && s.Maybe == t.Maybe && s.Open == t.Open
		return same && slices.EqualFunc(s.Fields, t.Fields, func(f, g api.Field) bool { return f.Name == g.Name && alike(f.V, g.V) })
	})
}

// same tells whether two entries are the same, item by item.
func same(a, b api.Entry) bool {
	equal := a.Key == b.Key && a.Steps == b.Steps && a.R.E == b.R.E && alike(a.R.V, b.R.V)
	return equal && slices.EqualFunc(a.Deps, b.Deps, func(x, y api.Dep) bool { return x.Name == y.Name && x.R.E == y.R.E && alike(x.R.V, y.R.V) })
}

// equal tells whether two lists have the same entries.
func equal(a, b []api.Entry) bool { return slices.EqualFunc(a, b, same) }

// brief is the begin of what is told, which may be great.
func brief(x any) string {
	s := fmt.Sprintf("%+v", x)
	return s[:min(len(s), 300)]
}

// keys are those of some entries, and what they came to.
func keys(l []api.Entry) string {
	var s []string
	for _, x := range l {
		k := x.Key
		if len(x.R.V.Terms) > 0 {
			k += "=" + strconv.Itoa(x.R.V.Terms[0].Fields[0].V.Terms[0].Lo)
		}
		s = append(s, k[:min(len(k), 20)])
	}
	return strings.Join(s, " ")
}

// has fails, if a memo has not just these entries.
func has(t *testing.T, what string, m *memo.Memo, want ...api.Entry) {
	t.Helper()
	if l := m.All(); !equal(l, want) {
		t.Errorf("%s: %s, not %s", what, keys(l), keys(want))
	}
	if n := m.Len(); n != len(want) {
		t.Errorf("%s: %d of them, not %d", what, n, len(want))
	}
}

// gets fails, if of a key not just these entries are found.
func gets(t *testing.T, m *memo.Memo, key string, want ...api.Entry) {
	t.Helper()
	if l := m.Get(key); !equal(l, want) {
		t.Errorf("Get(%s): %s, not %s", brief(key), keys(l), keys(want))
	}
}

// does fails, if one of some calls is refused.
func does(t *testing.T, l ...api.Errno) {
	t.Helper()
	for i, e := range l {
		if e != fine {
			t.Fatalf("call %d is refused: %d", i, e)
		}
	}
}

// answered fails, if a call answers another error.
func answered(t *testing.T, what string, got, want api.Errno) {
	t.Helper()
	if got != want {
		t.Errorf("%s: %d, not %d", what, got, want)
	}
}

// opened is a memo that is opened.
func opened(t *testing.T, d *disk.Disk, slots int) *memo.Memo {
	t.Helper()
	m, e := memo.Open(d, "log", slots)
	if m == nil || e != fine {
		t.Fatalf("Open: %d", e)
	}
	return m
}

// unopened fails, if a memo is opened, or another error told.
func unopened(t *testing.T, what string, d *disk.Disk, file string, slots int, want api.Errno) {
	t.Helper()
	if m, e := memo.Open(d, file, slots); m != nil || e != want {
		t.Errorf("%s: Open(%s, %d): %d, not %d", what, brief(file), slots, e, want)
	}
}

// told is what a disk tells of itself; of one that is down no file's bytes are.
func told(d *disk.Disk) string {
	s := fmt.Sprint(d.Down(), d.Ops())
	for _, file := range d.Names() {
		bytes, _ := d.Read(file)
		s += fmt.Sprintf(" %s %d %q", file, d.Sure(file), bytes)
	}
	return s
}

// texts are those of the book in the file log.
func texts(t *testing.T, d *disk.Disk) []string {
	t.Helper()
	s, e := d.Read("log")
	if e != fine {
		t.Fatalf("the file is not read: %d", e)
	}
	l, end := frame.All(s)
	if end != len(s) {
		t.Errorf("%d bytes behind the records", len(s)-end)
	}
	return l
}

// laid is a disk whose file log has records of some texts, all sure.
func laid(t *testing.T, l ...string) *disk.Disk {
	t.Helper()
	d := disk.New()
	b, e := book.Open(d, "log")
	does(t, e)
	for _, s := range l {
		does(t, b.Append(s))
	}
	does(t, b.Sync())
	return d
}

// dice are numbers that have no order to be seen.
type dice uint32

// roll is a number from 0 up to below n.
func (d *dice) roll(n int) int {
	*d = *d*1664525 + 1013904223
	return int(uint32(*d)>>8) % n
}
