package book_test

import (
	"hash/crc32"
	"math"
	"slices"
	"strconv"
	"strings"
	"testing"

	"treillage/api"
	"treillage/book"
	"treillage/disk"
)

// OK and the errors of the chapter by their numbers; ErrNone is the disk's.
const (
	fine   = 0
	refuse = 1
	long   = 4
	lacks  = 5
	off    = 8
)

const (
	full    = 4194304 // how many bytes a file may have
	longest = 65536   // how many bytes a text may have
	many    = 1 << 40 // more than there are of anything
)

// record is a text's record by the words of chapters 3, 4 and 6.
func record(s string) string {
	n := len(s)
	length := string([]byte{byte(n % 128)})
	for n /= 128; n > 0; n /= 128 {
		length = string([]byte{byte(n%128 + 128)}) + length
	}
	r := "\xa5" + length + s
	x := crc32.Checksum([]byte(r), crc32.MakeTable(crc32.Castagnoli))
	return r + string([]byte{byte(x), byte(x >> 8), byte(x >> 16), byte(x >> 24)})
}

// records are those of some texts, one behind the other.
func records(l ...string) string {
	var b strings.Builder
	for _, s := range l {
		b.WriteString(record(s))
	}
	return b.String()
}

// foreign are bytes at the front of which no record stands.
func foreign() []string {
	turned := []byte(record("a"))
	turned[2] ^= 4
	return []string{"x", "\x00", "\xa5", "\xa5\x01a", record("a")[1:], record("ab")[:len(record("ab"))-1], string(turned) + record("b"), "x" + record("a"), "\xa5\x80\x01", record(strings.Repeat("a", longest+1))}
}

// wrongNames are texts that are no names.
func wrongNames() []string {
	return []string{"", "A", "1", "_", "a-b", "a.b", " a", "a\n", "a\x00", "é", "any", "true", "Spare", "spare ", strings.Repeat("a", 17), strings.Repeat("a", 1<<20)}
}

// brief is a text, cut to what a line holds.
func brief(s string) string {
	if len(s) > 60 {
		return strconv.Quote(s[:40]) + ".. of " + strconv.Itoa(len(s))
	}
	return strconv.Quote(s)
}

// told is what a disk tells of itself; of one that is down no file's bytes are.
func told(d *disk.Disk) string {
	s := "up " + strconv.Itoa(d.Ops())
	if d.Down() {
		s = "down " + strconv.Itoa(d.Ops())
	}
	for _, file := range d.Names() {
		s += " " + file + " " + strconv.Itoa(d.Sure(file))
		if text, e := d.Read(file); e == fine {
			s += " " + brief(text)
		}
	}
	return s
}

// has fails, if a book has not just these texts, of which so many are sure.
func has(t *testing.T, what string, b *book.Book, sure int, want ...string) {
	t.Helper()
	if l := b.Texts(); !slices.Equal(l, want) {
		t.Errorf("%s: the texts %s, not %s", what, brief(strings.Join(l, " ")), brief(strings.Join(want, " ")))
	}
	if n := b.Sure(); n != sure {
		t.Errorf("%s: %d are sure, not %d", what, n, sure)
	}
}

// is fails, if a file has not just these bytes, of which so many are sure.
func is(t *testing.T, what string, d *disk.Disk, file string, sure int, want string) {
	t.Helper()
	if s, e := d.Read(file); s != want || e != fine || d.Sure(file) != sure {
		t.Errorf("%s: the file %s is %s, %d sure, %d, not %s, %d sure", what, file, brief(s), d.Sure(file), e, brief(want), sure)
	}
}

// did fails, if a disk had not just so many operations.
func did(t *testing.T, what string, d *disk.Disk, ops int) {
	t.Helper()
	if d.Ops() != ops {
		t.Errorf("%s: %d operations, not %d", what, d.Ops(), ops)
	}
}

// lone fails, if a disk has other files than these.
func lone(t *testing.T, what string, d *disk.Disk, want ...string) {
	t.Helper()
	if l := d.Names(); !slices.Equal(l, want) {
		t.Errorf("%s: the files %v, not %v", what, l, want)
	}
}

// answered fails, if a call answers another error.
func answered(t *testing.T, what string, got, want api.Errno) {
	t.Helper()
	if got != want {
		t.Errorf("%s: %d, not %d", what, got, want)
	}
}

// does fails, if one of some calls is refused.
func does(t *testing.T, l ...api.Errno) {
	t.Helper()
	for i, e := range l {
		if e != fine {
			t.Fatalf("call %d is refused: %d", i, e)
		}
	}
}

// opened is a book that is opened.
func opened(t *testing.T, d *disk.Disk, file string) *book.Book {
	t.Helper()
	b, e := book.Open(d, file)
	if b == nil || e != fine {
		t.Fatalf("Open(%s): %d", file, e)
	}
	return b
}

// unopened fails, if a book is opened, or another error told.
func unopened(t *testing.T, what string, d *disk.Disk, file string, want api.Errno) {
	t.Helper()
	if b, e := book.Open(d, file); b != nil || e != want {
		t.Errorf("%s: Open(%s): %v %d, not %d", what, brief(file), b, e, want)
	}
}

// laid is a disk whose file log has bytes that are sure, and bytes that wait. It had one operation, if some wait, else none.
func laid(t *testing.T, sure, waits string) *disk.Disk {
	t.Helper()
	d := disk.New()
	does(t, d.Load("log", sure))
	if waits != "" {
		does(t, d.Append("log", waits))
	}
	return d
}

// cutKeeps are how many bytes may come of an Append that is cut off.
var cutKeeps = []int{math.MinInt, -1, 0, 1, 2, 6, 7, 8, 9, many}
