package disk_test

import (
	"slices"
	"strconv"
	"strings"
	"testing"

	"treillage/api"
	"treillage/disk"
	"treillage/name"
)

// file is a file by the chapter's words: what is sure of it, and what waits.
type file struct{ name, sure, waits string }

// model is a disk by the chapter's words.
type model struct {
	files []file // as their names rise
	down  bool
	ops   int
	fuse  bool
	goes  int // the number of the operation that the fuse cuts off
	keep  int
}

// at is a file's place, and whether it is there.
func (m *model) at(s string) (int, bool) {
	return slices.BinarySearchFunc(m.files, s, func(f file, s string) int { return strings.Compare(f.name, s) })
}

// cut counts an operation, and tells whether it is cut off.
func (m *model) cut() bool {
	m.ops++
	if !m.fuse || m.ops < m.goes {
		return false
	}
	m.fuse, m.down = false, true
	return true
}

func (m *model) append(s, text string) api.Errno {
	if m.down {
		return off
	}
	if !name.Right(s) {
		return refuse
	}
	i, there := m.at(s)
	if n := len(text); n > full || there && len(m.files[i].sure+m.files[i].waits)+n > full {
		return long
	}
	if !there {
		m.files = slices.Insert(m.files, i, file{name: s})
	}
	if m.cut() {
		switch {
		case m.keep <= 0:
			text = ""
		case m.keep < len(text):
			text = text[:m.keep]
		}
		m.files[i].waits += text
		return off
	}
	m.files[i].waits += text
	return fine
}

// known is what is refused of a file that has to be there, and its place.
func (m *model) known(s string) (int, api.Errno) {
	if m.down {
		return 0, off
	}
	i, there := m.at(s)
	if !there {
		return 0, lacks
	}
	if m.cut() {
		return 0, off
	}
	return i, fine
}

func (m *model) sync(s string) api.Errno {
	i, e := m.known(s)
	if e == fine {
		m.files[i] = file{s, m.files[i].sure + m.files[i].waits, ""}
	}
	return e
}

func (m *model) remove(s string) api.Errno {
	i, e := m.known(s)
	if e == fine {
		m.files = slices.Delete(m.files, i, i+1)
	}
	return e
}

func (m *model) rename(from, to string) api.Errno {
	if !m.down && !name.Right(to) {
		return refuse
	}
	i, e := m.known(from)
	if e != fine || from == to {
		return e
	}
	f := m.files[i]
	m.files = slices.DeleteFunc(m.files, func(g file) bool { return g.name == from || g.name == to })
	j, _ := m.at(to)
	m.files = slices.Insert(m.files, j, file{to, f.sure, f.waits})
	return fine
}

func (m *model) load(s, text string) api.Errno {
	if !name.Right(s) {
		return refuse
	}
	if len(text) > full {
		return long
	}
	i, there := m.at(s)
	if there {
		m.files[i] = file{s, text, ""}
	} else {
		m.files = slices.Insert(m.files, i, file{s, text, ""})
	}
	return fine
}

func (m *model) lay(n, keep int) {
	m.fuse, m.goes, m.keep = true, m.ops+max(n, 1), keep
}

func (m *model) wake(keeps ...int) {
	for i, f := range m.files {
		for j := 0; i < len(keeps) && j < keeps[i] && j < len(f.waits); j++ {
			m.files[i].sure += f.waits[j : j+1]
		}
		m.files[i].waits = ""
	}
	m.down, m.fuse = false, false
}

// outside is what a disk tells of itself, up or down.
func (m *model) outside() string {
	s := "up " + strconv.Itoa(m.ops)
	if m.down {
		s = "down " + strconv.Itoa(m.ops)
	}
	for _, f := range m.files {
		s += " " + f.name + " " + strconv.Itoa(len(f.sure))
	}
	return s
}

// act is one call, done to a disk and to its model, and what both answer.
type act struct {
	what string
	do   func(d *disk.Disk, m *model) (got, want api.Errno)
}

func appends(s, text string) act {
	return act{"Append(" + s + ", " + brief(text) + ")", func(d *disk.Disk, m *model) (api.Errno, api.Errno) {
		return d.Append(s, text), m.append(s, text)
	}}
}

func syncs(s string) act {
	return act{"Sync(" + s + ")", func(d *disk.Disk, m *model) (api.Errno, api.Errno) { return d.Sync(s), m.sync(s) }}
}

func renames(from, to string) act {
	return act{"Rename(" + from + ", " + to + ")", func(d *disk.Disk, m *model) (api.Errno, api.Errno) {
		return d.Rename(from, to), m.rename(from, to)
	}}
}

func removes(s string) act {
	return act{"Remove(" + s + ")", func(d *disk.Disk, m *model) (api.Errno, api.Errno) { return d.Remove(s), m.remove(s) }}
}

func loads(s, text string) act {
	return act{"Load(" + s + ", " + brief(text) + ")", func(d *disk.Disk, m *model) (api.Errno, api.Errno) {
		return d.Load(s, text), m.load(s, text)
	}}
}

func lays(n, keep int) act {
	return act{"Fuse(" + strconv.Itoa(n) + ", " + strconv.Itoa(keep) + ")", func(d *disk.Disk, m *model) (api.Errno, api.Errno) {
		d.Fuse(n, keep)
		m.lay(n, keep)
		return fine, fine
	}}
}

func wakes(keeps ...int) act {
	return act{"Wake", func(d *disk.Disk, m *model) (api.Errno, api.Errno) {
		d.Wake(keeps...)
		m.wake(keeps...)
		return fine, fine
	}}
}

// same holds a disk against its model, as far as either tells.
func same(d *disk.Disk, m *model) (string, bool) {
	if got, want := outside(d), m.outside(); got != want {
		return got + ", not " + want, false
	}
	for _, f := range m.files {
		s, e := d.Read(f.name)
		if m.down && (s != "" || e != off) || !m.down && (s != f.sure+f.waits || e != fine) {
			return f.name + ": " + brief(s) + " " + strconv.Itoa(int(e)), false
		}
	}
	return "", true
}

// run does some acts, one behind the other, holding the disk against its model behind each.
func run(t *testing.T, l []act) (*disk.Disk, *model) {
	t.Helper()
	d, m := disk.New(), &model{}
	for i, a := range l {
		got, want := a.do(d, m)
		told, ok := same(d, m)
		if got == want && ok {
			continue
		}
		var ahead []string
		for _, a := range l[:i+1] {
			ahead = append(ahead, a.what)
		}
		t.Fatalf("%v: %d, not %d; %s", ahead, got, want, told)
	}
	return d, m
}

// 23.1, 23.2: all rows of four of some calls, each held against the chapter's words.
func TestAllRows(t *testing.T) {
	acts := []act{appends("a", "xy"), appends("b", ""), appends("b", "z"), syncs("a"), syncs("b"), renames("a", "b"), renames("b", "a"), renames("a", "a"), removes("a"), lays(1, 1), lays(2, 0), wakes(), wakes(1), wakes(0, 1), loads("a", "q"), appends("A", "x"), renames("a", "A"), loads("none", "x")}
	n := len(acts)
	for i := range n * n * n * n {
		run(t, []act{appends("a", "uvw"), acts[i%n], acts[i/n%n], acts[i/n/n%n], acts[i/n/n/n], wakes(many, many)})
	}
}

// dice are numbers that have no order to be seen.
type dice uint32

// roll is a number from 0 up to below n.
func (d *dice) roll(n int) int {
	*d = *d*1664525 + 1013904223
	return int(uint32(*d)>>8) % n
}

// pick is one of some.
func pick[T any](d *dice, l ...T) T { return l[d.roll(len(l))] }

// rolled is a call of any kind.
func rolled(d *dice) act {
	s := pick(d, "a", "a", "b", "c", "memo", "spare", "A", "")
	text := strings.Repeat(string([]byte{byte(d.roll(256))}), d.roll(5))
	switch d.roll(16) {
	case 0, 1, 2, 3, 4, 5:
		return appends(s, text)
	case 6, 7:
		return syncs(s)
	case 8, 9:
		return renames(s, pick(d, "a", "b", "c", "memo", "spare", "true"))
	case 10:
		return removes(s)
	case 11:
		return loads(s, text)
	case 12:
		return lays(d.roll(7)-1, d.roll(7)-1)
	default:
		var keeps []int
		for range d.roll(7) {
			keeps = append(keeps, d.roll(8)-2)
		}
		return wakes(keeps...)
	}
}

// 23.1, 23.2: rolled calls, held against the chapter's words behind each.
func TestRolled(t *testing.T) {
	down := 0
	for i := range 6000 {
		d := new(dice(i))
		var l []act
		for range 5 + d.roll(60) {
			l = append(l, rolled(d))
		}
		if made, _ := run(t, l); made.Down() {
			down++
		}
	}
	if down < 100 {
		t.Errorf("only %d were down", down)
	}
}

// 23.3: behind a Sync and any losses of power a file begins with what was sure; what else it has was appended there.
func TestSureStays(t *testing.T) {
	for i := range 3000 {
		roll := new(dice(i))
		d := disk.New()
		sure, all := "", "" // what the last Sync made sure, and that with all that was appended since a loss
		for range 40 {
			text := strings.Repeat(string([]byte{byte('a' + roll.roll(26))}), roll.roll(4))
			switch roll.roll(6) {
			case 0:
				if d.Sync("f") == fine {
					sure = all
				}
			case 1:
				d.Fuse(1+roll.roll(4), roll.roll(4))
			case 2:
				d.Wake(roll.roll(6))
				s, _ := d.Read("f")
				if !strings.HasPrefix(s, sure) || !strings.HasPrefix(all, s) || d.Sure("f") != len(s) {
					t.Fatalf("%q were sure, %q were there: woken as %q", sure, all, s)
				}
				sure, all = s, s
			default:
				if !d.Down() {
					d.Append("f", text)
					all += text
				}
			}
		}
	}
}
