package disk_test

import (
	"math"
	"slices"
	"strconv"
	"strings"
	"testing"

	"treillage/api"
	"treillage/disk"
)

// full is how many bytes a file may have.
const full = 4194304

// OK and the errors of the chapter by their numbers.
const (
	fine   = 0
	refuse = 1
	long   = 4
	lacks  = 5
	off    = 8
)

// many is more than any file of these tests has.
const many = 1 << 40

// wrongNames are texts that are no names.
func wrongNames() []string {
	return []string{"", "A", "1", "_", "a-b", "a.b", "a b", " a", "a ", "a\n", "a\x00", "aB", "é", "a\xff", "/", "..", "any", "bool", "computed", "false", "int", "none", "resource", "string", "true", strings.Repeat("a", 17), strings.Repeat("a", 1<<20)}
}

// rightNames are texts that are names.
func rightNames() []string {
	return []string{"a", "z9_", "memo", "spare", "anyone", strings.Repeat("a", 16)}
}

// brief is a text, cut to what a line holds.
func brief(s string) string {
	if len(s) > 40 {
		return strconv.Quote(s[:20]) + ".. of " + strconv.Itoa(len(s))
	}
	return strconv.Quote(s)
}

// outside is what a disk tells of itself, up or down.
func outside(d *disk.Disk) string {
	l := []string{"up", strconv.Itoa(d.Ops())}
	if d.Down() {
		l[0] = "down"
	}
	for _, s := range d.Names() {
		l = append(l, s, strconv.Itoa(d.Sure(s)))
	}
	return strings.Join(l, " ")
}

// whole is what a disk that is up tells of itself: the files' bytes, too, with a stroke behind those that are sure.
func whole(t *testing.T, d *disk.Disk) string {
	t.Helper()
	l := []string{strconv.Itoa(d.Ops())}
	for _, s := range d.Names() {
		text, e := d.Read(s)
		if n := d.Sure(s); e != fine || n < 0 || n > len(text) {
			t.Fatalf("Read(%s): %s %d, of which %d are sure", s, brief(text), e, n)
		} else {
			l = append(l, s+":"+text[:n]+"|"+text[n:])
		}
	}
	if d.Down() {
		t.Fatal("a disk that is read is down")
	}
	return strings.Join(l, " ")
}

// is fails, if a disk that is up is not so.
func is(t *testing.T, what string, d *disk.Disk, want string) {
	t.Helper()
	if got := whole(t, d); got != want {
		t.Errorf("%s: %s, not %s", what, got, want)
	}
}

// answered fails, if a call answers another error.
func answered(t *testing.T, what string, got, want api.Errno) {
	t.Helper()
	if got != want {
		t.Errorf("%s: %d, not %d", what, got, want)
	}
}

// does fails, if one of some calls is refused.
func does(t *testing.T, l ...api.Errno) {
	t.Helper()
	for i, e := range l {
		if e != fine {
			t.Fatalf("call %d is refused: %d", i, e)
		}
	}
}

// two is a disk with the files a, ab of which are sure and cd wait, and b, e of which is sure and f waits. It had 6 operations.
func two(t *testing.T) *disk.Disk {
	t.Helper()
	d := disk.New()
	does(t, d.Append("b", "e"), d.Sync("b"), d.Append("a", "ab"), d.Sync("a"), d.Append("a", "cd"), d.Append("b", "f"))
	return d
}

// 23.1, 23.2: a new disk has no files, and is up.
func TestNew(t *testing.T) {
	d := disk.New()
	if l := d.Names(); len(l) != 0 || d.Down() || d.Ops() != 0 {
		t.Errorf("a new disk: %s", outside(d))
	}
	for _, s := range append(wrongNames(), rightNames()...) {
		if text, e := d.Read(s); text != "" || e != lacks || d.Sure(s) != 0 {
			t.Errorf("Read(%s) of a new disk: %s %d", brief(s), brief(text), e)
		}
	}
	if disk.New().Append("a", "b"); len(disk.New().Names()) != 0 {
		t.Error("two new disks share their files")
	}
}

// 23.1, 23.2: the chapter's example.
func TestExample(t *testing.T) {
	d := disk.New()
	does(t, d.Append("f", "ab"), d.Sync("f"), d.Append("f", "cd"))
	d.Fuse(1, 1)
	answered(t, "Append", d.Append("f", "ef"), off)
	d.Wake(2)
	is(t, "the example", d, "4 f:abcd|")
}

// 23.1: what is appended stands behind the bytes that were there, and waits, whatever bytes it has.
func TestAppend(t *testing.T) {
	d := disk.New()
	does(t, d.Append("a", "one"), d.Append("b", "\x00\xff\n"), d.Append("a", ""), d.Append("a", "é"))
	is(t, "appended", d, "4 a:|oneé b:|\x00\xff\n")
	does(t, d.Sync("a"), d.Append("a", "x"))
	is(t, "appended behind a Sync", d, "6 a:oneé|x b:|\x00\xff\n")
}

// 23.1: an empty text makes a file, too, and one that is there and empty can be read, synced, renamed and removed.
func TestEmpty(t *testing.T) {
	d := disk.New()
	does(t, d.Append("a", ""))
	is(t, "appended", d, "1 a:|")
	if s, e := d.Read("a"); s != "" || e != fine {
		t.Errorf("Read: %s %d", brief(s), e)
	}
	does(t, d.Sync("a"), d.Append("a", ""), d.Rename("a", "b"))
	is(t, "renamed", d, "4 b:|")
	d.Wake()
	is(t, "woken", d, "4 b:|")
	does(t, d.Remove("b"))
	is(t, "removed", d, "5")
}

// 23.1: a file may have 2^22 bytes and not one more, in whatever parts they come; what is too long changes nothing, and is no operation.
func TestAppendLong(t *testing.T) {
	some := strings.Repeat("abcdefgh", full/8)
	for _, first := range []int{0, 1, full / 2, full - 1, full} {
		d := disk.New()
		does(t, d.Append("b", "c"), d.Append("a", some[:first]))
		answered(t, "one more", d.Append("a", some[first:]+"x"), long)
		answered(t, "twice as many", d.Append("a", some+some), long)
		if s, e := d.Read("a"); s != some[:first] || e != fine || d.Ops() != 2 {
			t.Errorf("behind a refusal: %s %d, %d operations", brief(s), e, d.Ops())
		}
		does(t, d.Append("a", some[first:]))
		answered(t, "one behind all", d.Append("a", "x"), long)
		does(t, d.Append("a", ""), d.Sync("a"), d.Append("b", some[1:]))
		if s, e := d.Read("a"); s != some || e != fine || d.Ops() != 6 || d.Sure("a") != full {
			t.Errorf("a full file: %s %d, %d operations", brief(s), e, d.Ops())
		}
	}
	d := disk.New()
	answered(t, "one more than a file may have", d.Append("a", some+"x"), long)
	is(t, "a file that would be too long", d, "0")
}

// 23.1: one byte behind the other, up to the last one that there may be.
func TestAppendByBytes(t *testing.T) {
	d := disk.New()
	for i := range full {
		if e := d.Append("a", "x"); e != fine {
			t.Fatalf("byte %d: %d", i, e)
		}
	}
	answered(t, "one more", d.Append("a", "x"), long)
	if s, _ := d.Read("a"); s != strings.Repeat("x", full) || d.Ops() != full {
		t.Errorf("%d bytes, %d operations", len(s), d.Ops())
	}
}

// 23.1: under which names there may be a file; what is refused has changed nothing.
func TestNames(t *testing.T) {
	for _, s := range wrongNames() {
		d := two(t)
		answered(t, "Append to "+brief(s), d.Append(s, "x"), refuse)
		answered(t, "Append of nothing to "+brief(s), d.Append(s, ""), refuse)
		answered(t, "Append of too much to "+brief(s), d.Append(s, strings.Repeat("x", full+1)), refuse)
		answered(t, "Load of "+brief(s), d.Load(s, "x"), refuse)
		answered(t, "Load of too much to "+brief(s), d.Load(s, strings.Repeat("x", full+1)), refuse)
		answered(t, "Rename to "+brief(s), d.Rename("a", s), refuse)
		answered(t, "Rename of nothing to "+brief(s), d.Rename("c", s), refuse)
		answered(t, "Rename to itself of "+brief(s), d.Rename(s, s), refuse)
		answered(t, "Rename of "+brief(s), d.Rename(s, "a"), lacks)
		answered(t, "Sync of "+brief(s), d.Sync(s), lacks)
		answered(t, "Remove of "+brief(s), d.Remove(s), lacks)
		if text, e := d.Read(s); text != "" || e != lacks || d.Sure(s) != 0 {
			t.Errorf("Read(%s): %s %d", brief(s), brief(text), e)
		}
		is(t, brief(s), d, "6 a:ab|cd b:e|f")
	}
	for _, s := range rightNames() {
		d := disk.New()
		does(t, d.Append(s, "x"), d.Rename(s, "other"), d.Rename("other", s), d.Sync(s), d.Load(s, "y"))
		is(t, s, d, "4 "+s+":y|")
		does(t, d.Remove(s))
	}
}

// 23.2: files are told as their names rise, byte by byte, in a list of its own.
func TestRising(t *testing.T) {
	d := disk.New()
	for _, s := range []string{"b", "a_", "a", "ab", "a0", "zz", "z"} {
		does(t, d.Append(s, s))
	}
	want := []string{"a", "a0", "a_", "ab", "b", "z", "zz"}
	l := d.Names()
	if !slices.Equal(l, want) {
		t.Fatalf("Names: %v", l)
	}
	l[0], l[6] = "other", "none"
	_ = append(l[:3], "x")
	if l := d.Names(); !slices.Equal(l, want) {
		t.Errorf("Names behind a change of what was told: %v", l)
	}
	d.Wake(1, 0, 2, 1, 0, 0, 1)
	is(t, "woken in that order", d, "7 a:a| a0:| a_:a_| ab:a| b:| z:| zz:z|")
}

// 23.1: of a file that is not there nothing is told, and nothing done.
func TestNone(t *testing.T) {
	d := two(t)
	if s, e := d.Read("c"); s != "" || e != lacks || d.Sure("c") != 0 {
		t.Errorf("Read: %s %d", brief(s), e)
	}
	answered(t, "Sync", d.Sync("c"), lacks)
	answered(t, "Rename", d.Rename("c", "a"), lacks)
	answered(t, "Rename to itself", d.Rename("c", "c"), lacks)
	answered(t, "Remove", d.Remove("c"), lacks)
	is(t, "behind all that", d, "6 a:ab|cd b:e|f")
}

// 23.1: a Sync makes all bytes of its file sure, and of no other one.
func TestSync(t *testing.T) {
	d := two(t)
	does(t, d.Sync("a"))
	is(t, "a Sync", d, "7 a:abcd| b:e|f")
	does(t, d.Sync("a"))
	is(t, "once more", d, "8 a:abcd| b:e|f")
	d.Wake()
	is(t, "a loss", d, "8 a:abcd| b:e|")
}

// 23.1: a file goes with what is sure and what waits, over another one, too.
func TestRename(t *testing.T) {
	for _, x := range []struct{ from, to, want, woken string }{
		{"a", "c", "7 b:e|f c:ab|cd", "7 b:ef| c:ab|"},
		{"a", "b", "7 b:ab|cd", "7 b:abc|"},
		{"b", "a", "7 a:e|f", "7 a:ef|"},
		{"a", "a", "7 a:ab|cd b:e|f", "7 a:abc| b:e|"},
		{"b", "b", "7 a:ab|cd b:e|f", "7 a:abc| b:e|"},
		{"a", "zz", "7 b:e|f zz:ab|cd", "7 b:ef| zz:ab|"},
	} {
		d := two(t)
		does(t, d.Rename(x.from, x.to))
		is(t, x.from+" to "+x.to, d, x.want)
		d.Wake(1)
		is(t, x.from+" to "+x.to+", woken", d, x.woken)
	}
	d := two(t)
	does(t, d.Rename("a", "c"), d.Append("a", "new"), d.Append("c", "x"), d.Sync("a"))
	is(t, "a new file of the old name", d, "10 a:new| b:e|f c:ab|cdx")
}

// 23.1: what is removed is there no more, sure or not; a new file of its name has nothing of it.
func TestRemove(t *testing.T) {
	d := two(t)
	does(t, d.Remove("a"))
	is(t, "removed", d, "7 b:e|f")
	if s, e := d.Read("a"); s != "" || e != lacks || d.Sure("a") != 0 {
		t.Errorf("Read: %s %d", brief(s), e)
	}
	answered(t, "once more", d.Remove("a"), lacks)
	does(t, d.Append("a", "x"))
	is(t, "a new one", d, "8 a:|x b:e|f")
	does(t, d.Remove("a"), d.Remove("b"))
	is(t, "all removed", d, "10")
}

// cutOff is one operation of each kind on the disk two, and what there is behind it, all woken: done, and cut off with so many bytes that come.
type cutOff struct {
	what  string
	do    func(d *disk.Disk) api.Errno
	done  string
	comes func(keep int) string
}

// front is the front of a text.
func front(s string, keep int) string {
	return s[:max(0, min(keep, len(s)))]
}

func cutOffs() []cutOff {
	never := func(int) string { return "7 a:abcd| b:ef|" }
	return []cutOff{
		{"Append", func(d *disk.Disk) api.Errno { return d.Append("a", "xyz") }, "7 a:ab|cdxyz b:e|f", func(keep int) string { return "7 a:abcd" + front("xyz", keep) + "| b:ef|" }},
		{"Append to none", func(d *disk.Disk) api.Errno { return d.Append("c", "xyz") }, "7 a:ab|cd b:e|f c:|xyz", func(keep int) string { return "7 a:abcd| b:ef| c:" + front("xyz", keep) + "|" }},
		{"Append of nothing", func(d *disk.Disk) api.Errno { return d.Append("c", "") }, "7 a:ab|cd b:e|f c:|", func(int) string { return "7 a:abcd| b:ef| c:|" }},
		{"Sync", func(d *disk.Disk) api.Errno { return d.Sync("a") }, "7 a:abcd| b:e|f", never},
		{"Rename", func(d *disk.Disk) api.Errno { return d.Rename("a", "c") }, "7 b:e|f c:ab|cd", never},
		{"Rename over", func(d *disk.Disk) api.Errno { return d.Rename("a", "b") }, "7 b:ab|cd", never},
		{"Rename to itself", func(d *disk.Disk) api.Errno { return d.Rename("a", "a") }, "7 a:ab|cd b:e|f", never},
		{"Remove", func(d *disk.Disk) api.Errno { return d.Remove("a") }, "7 b:e|f", never},
	}
}

// keeps are numbers of bytes that may be kept.
var keeps = []int{math.MinInt, -many, -1, 0, 1, 2, 3, 4, 5, many, math.MaxInt}

// 23.1, 23.2: an operation that is cut off: what comes of it, whatever n below 1 the fuse has, and that the disk is down.
func TestCutOff(t *testing.T) {
	for _, x := range cutOffs() {
		d := two(t)
		answered(t, x.what, x.do(d), fine)
		is(t, x.what, d, x.done)
		for _, keep := range keeps {
			for _, n := range []int{math.MinInt, -5, -1, 0, 1} {
				d := two(t)
				d.Fuse(n, keep)
				is(t, "a fuse alone", d, "6 a:ab|cd b:e|f")
				answered(t, x.what+" cut off", x.do(d), off)
				want := "down 7 a 2 b 1"
				if strings.Contains(x.comes(keep), "c:") {
					want += " c 0"
				}
				if got := outside(d); got != want {
					t.Errorf("%s with Fuse(%d, %d): %s, not %s", x.what, n, keep, got, want)
				}
				d.Wake(many, many, many)
				is(t, x.what+" cut off with "+strconv.Itoa(keep), d, x.comes(keep))
			}
		}
	}
}

// 23.2: of a Sync that is cut off nothing is sure.
func TestCutSync(t *testing.T) {
	for _, keep := range keeps {
		d := two(t)
		d.Fuse(1, keep)
		answered(t, "Sync", d.Sync("a"), off)
		d.Wake()
		is(t, "woken without keeps", d, "7 a:ab| b:e|")
	}
}

// 23.2: it is the n-th operation from then on that is cut off, and none behind it, once the disk is woken.
func TestFuseCounts(t *testing.T) {
	for _, x := range cutOffs() {
		for n := 1; n <= 6; n++ {
			d := two(t)
			does(t, d.Sync("b"))
			d.Fuse(n, 0)
			for i := 1; i < n; i++ {
				answered(t, "ahead of it", d.Append("b", "x"), fine)
			}
			answered(t, "that one: "+x.what, x.do(d), off)
			if !d.Down() || d.Ops() != 7+n {
				t.Errorf("%s as number %d: %s", x.what, n, outside(d))
			}
			d.Wake()
			for range 9 {
				answered(t, "behind it", d.Append("b", "x"), fine)
			}
		}
	}
	for _, n := range []int{8, 1 << 31, 1 << 32, 1<<32 + 1, math.MaxInt} {
		d := two(t)
		d.Fuse(n, 0)
		does(t, d.Append("a", ""), d.Sync("a"), d.Rename("a", "c"), d.Remove("c"), d.Append("a", ""), d.Sync("a"), d.Sync("a"))
		if d.Down() || d.Ops() != 13 {
			t.Errorf("Fuse(%d, 0): %s", n, outside(d))
		}
	}
}

// 23.2: a later fuse takes the place of one that is there, and one that went off is gone.
func TestFuses(t *testing.T) {
	d := two(t)
	d.Fuse(1, 3)
	d.Fuse(3, 1)
	does(t, d.Sync("a"), d.Sync("b"))
	answered(t, "the later fuse", d.Append("a", "xyz"), off)
	d.Wake(many)
	is(t, "the later fuse", d, "9 a:abcdx| b:ef|")

	d.Fuse(3, 0)
	does(t, d.Sync("a"))
	d.Fuse(3, 2)
	does(t, d.Sync("a"), d.Sync("a"))
	answered(t, "counted anew", d.Append("a", "xyz"), off)
	d.Wake(many)
	is(t, "counted anew", d, "13 a:abcdxxy| b:ef|")

	d.Fuse(5, 0)
	d.Fuse(0, many)
	answered(t, "an earlier one", d.Append("b", "xyz"), off)
	d.Wake(0, many)
	is(t, "an earlier one", d, "14 a:abcdxxy| b:efxyz|")

	d.Fuse(1, 0)
	d.Wake()
	does(t, d.Sync("a"), d.Sync("a"))
	d.Fuse(1, 0)
	answered(t, "cut off", d.Sync("a"), off)
	d.Fuse(1, 0)
	d.Wake()
	does(t, d.Sync("a"), d.Sync("a"))
	is(t, "woken behind a fuse", d, "19 a:abcdxxy| b:efxyz|")
}

// 23.2: what is refused, and what is no operation, is not counted, neither by Ops nor by a fuse.
func TestNotCounted(t *testing.T) {
	d := two(t)
	does(t, d.Append("c", strings.Repeat("x", full)))
	d.Fuse(1, 0)
	for range 3 {
		answered(t, "Append", d.Append("A", "x"), refuse)
		answered(t, "Append", d.Append("c", "x"), long)
		answered(t, "Sync", d.Sync("d"), lacks)
		answered(t, "Rename", d.Rename("a", "true"), refuse)
		answered(t, "Rename", d.Rename("d", "e"), lacks)
		answered(t, "Remove", d.Remove("d"), lacks)
		answered(t, "Load", d.Load("", "x"), refuse)
		answered(t, "Load", d.Load("a", strings.Repeat("x", full+1)), long)
		answered(t, "Load", d.Load("e", "x"), fine)
		if _, e := d.Read("d"); e != lacks {
			t.Errorf("Read: %d", e)
		}
		if _, e := d.Read("a"); e != fine {
			t.Errorf("Read: %d", e)
		}
	}
	if got := outside(d); got != "up 7 a 2 b 1 c 0 e 1" {
		t.Fatalf("behind all that: %s", got)
	}
	answered(t, "the first operation", d.Sync("a"), off)
	if got := outside(d); got != "down 8 a 2 b 1 c 0 e 1" {
		t.Errorf("cut off: %s", got)
	}
}

// 23.1, 23.2: whatever is asked of a disk that is down.
func TestDown(t *testing.T) {
	d := two(t)
	d.Fuse(1, 0)
	answered(t, "cut off", d.Remove("a"), off)
	for _, s := range append(append(wrongNames(), rightNames()...), "b", "c") {
		if text, e := d.Read(s); text != "" || e != off {
			t.Errorf("Read(%s): %s %d", brief(s), brief(text), e)
		}
		answered(t, "Append", d.Append(s, "x"), off)
		answered(t, "Append of too much", d.Append(s, strings.Repeat("x", full+1)), off)
		answered(t, "Sync", d.Sync(s), off)
		answered(t, "Rename", d.Rename(s, "b"), off)
		answered(t, "Rename", d.Rename("b", s), off)
		answered(t, "Remove", d.Remove(s), off)
	}
	if got := outside(d); got != "down 7 a 2 b 1" {
		t.Errorf("behind all that: %s", got)
	}
	d.Fuse(1, 1)
	if got := outside(d); got != "down 7 a 2 b 1" {
		t.Errorf("behind a fuse: %s", got)
	}
	d.Wake(many, many)
	is(t, "woken", d, "7 a:abcd| b:ef|")
}

// 23.2: what stays of what waits, file by file; what stays is sure.
func TestWake(t *testing.T) {
	for _, x := range []struct {
		keeps []int
		want  string
	}{
		{nil, "a:ab| b:e|"},
		{[]int{}, "a:ab| b:e|"},
		{[]int{0}, "a:ab| b:e|"},
		{[]int{1}, "a:abc| b:e|"},
		{[]int{2}, "a:abcd| b:e|"},
		{[]int{3}, "a:abcd| b:e|"},
		{[]int{math.MaxInt}, "a:abcd| b:e|"},
		{[]int{-1}, "a:ab| b:e|"},
		{[]int{math.MinInt, math.MaxInt}, "a:ab| b:ef|"},
		{[]int{math.MaxInt, math.MinInt}, "a:abcd| b:e|"},
		{[]int{0, 1}, "a:ab| b:ef|"},
		{[]int{1, 1}, "a:abc| b:ef|"},
		{[]int{-3, 5}, "a:ab| b:ef|"},
		{[]int{5, -3}, "a:abcd| b:e|"},
		{[]int{1, 0, 1}, "a:abc| b:e|"},
		{[]int{2, 1, 7, 7, 7, -7}, "a:abcd| b:ef|"},
	} {
		for _, down := range []bool{false, true} {
			d, ops := two(t), "6 "
			if down {
				d.Fuse(1, 1)
				answered(t, "cut off", d.Rename("a", "c"), off)
				ops = "7 "
			}
			handed := append(slices.Clone(x.keeps), 1, 1)[:len(x.keeps)]
			d.Wake(handed...)
			is(t, "woken", d, ops+x.want)
			if !slices.Equal(handed, x.keeps) {
				t.Errorf("Wake changed what it was handed: %v", handed)
			}
			d.Wake(many, many)
			is(t, "woken once more", d, ops+x.want)
		}
	}
}

// 23.2: a file of which nothing waits has its keep, too, and so has one that is empty; one of which nothing stays is there still.
func TestWakeEach(t *testing.T) {
	d := disk.New()
	does(t, d.Append("a", "x"), d.Sync("a"), d.Append("b", ""), d.Append("c", "yz"), d.Append("d", "w"))
	d.Wake(5, 5, 1)
	is(t, "woken", d, "5 a:x| b:| c:y| d:|")
	does(t, d.Append("c", "new"), d.Append("d", "v"))
	is(t, "appended behind it", d, "7 a:x| b:| c:y|new d:|v")
	d.Wake(0, 0, 1, 1)
	is(t, "woken again", d, "7 a:x| b:| c:yn| d:v|")
}

// 23.2: what is loaded is all that the file has, and sure, whatever waited, also if the disk is down; it is no operation.
func TestLoad(t *testing.T) {
	d := two(t)
	does(t, d.Load("a", "xyz"), d.Load("c", ""), d.Load("d", "\x00\xff"))
	is(t, "loaded", d, "6 a:xyz| b:e|f c:| d:\x00\xff|")
	does(t, d.Append("a", "w"))
	is(t, "appended", d, "7 a:xyz|w b:e|f c:| d:\x00\xff|")
	does(t, d.Load("a", ""))
	is(t, "loaded with nothing", d, "7 a:| b:e|f c:| d:\x00\xff|")
	d.Fuse(1, 0)
	does(t, d.Load("a", "q"))
	answered(t, "cut off", d.Append("b", "g"), off)
	does(t, d.Load("b", "loaded"), d.Load("e", "new"))
	answered(t, "no name", d.Load("E", "new"), refuse)
	answered(t, "too much", d.Load("e", strings.Repeat("x", full+1)), long)
	if got := outside(d); got != "down 8 a 1 b 6 c 0 d 2 e 3" {
		t.Errorf("loaded while it was down: %s", got)
	}
	d.Wake()
	is(t, "woken", d, "8 a:q| b:loaded| c:| d:\x00\xff| e:new|")
}

// 23.2: as many bytes may be loaded as a file may have, and not one more.
func TestLoadLong(t *testing.T) {
	some := strings.Repeat("abcdefgh", full/8)
	d := disk.New()
	answered(t, "one more", d.Load("a", some+"x"), long)
	is(t, "refused", d, "0")
	does(t, d.Load("a", some))
	answered(t, "one more", d.Load("a", some+"x"), long)
	answered(t, "one more", d.Append("a", "x"), long)
	if s, e := d.Read("a"); s != some || e != fine || d.Sure("a") != full || d.Ops() != 0 {
		t.Errorf("a full file: %s %d, %s", brief(s), e, outside(d))
	}
	does(t, d.Load("a", some[1:]), d.Append("a", "x"))
}

// nobody asks everything of a disk that nobody made.
func nobody(t *testing.T, d *disk.Disk) {
	t.Helper()
	for _, s := range append(wrongNames(), rightNames()...) {
		if text, e := d.Read(s); text != "" || e != off {
			t.Errorf("Read: %s %d", brief(text), e)
		}
		answered(t, "Append", d.Append(s, "x"), off)
		answered(t, "Append", d.Append(s, strings.Repeat("x", full+1)), off)
		answered(t, "Sync", d.Sync(s), off)
		answered(t, "Rename", d.Rename(s, "a"), off)
		answered(t, "Rename", d.Rename("a", s), off)
		answered(t, "Remove", d.Remove(s), off)
		answered(t, "Load", d.Load(s, "x"), off)
		answered(t, "Load", d.Load(s, strings.Repeat("x", full+1)), off)
		d.Fuse(1, 1)
		d.Wake(1, 2)
		if got := outside(d); got != "down 0" || d.Sure(s) != 0 {
			t.Errorf("a disk that nobody made: %s", got)
		}
	}
}

// 23.2: a disk that is nil is down, and stays so.
func TestNil(t *testing.T) {
	nobody(t, nil)
	nobody(t, new(disk.Disk))
}

// 23.1: what was read stays as it was, whatever comes behind it.
func TestRead(t *testing.T) {
	d := disk.New()
	does(t, d.Append("a", "one"), d.Append("a", "two"))
	before, _ := d.Read("a")
	d.Wake(2)
	does(t, d.Append("a", "WXYZ"))
	behind, _ := d.Read("a")
	does(t, d.Load("a", "other"), d.Append("a", "more"), d.Remove("a"))
	if before != "onetwo" || behind != "onWXYZ" {
		t.Errorf("what was read became %s and %s", brief(before), brief(behind))
	}
}
