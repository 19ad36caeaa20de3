package book_test

import (
	"slices"
	"strconv"
	"strings"
	"testing"

	"treillage/book"
	"treillage/disk"
)

// 24.1: what can't be opened, whether the disk is up or down; it has changed nothing.
func TestOpenWrong(t *testing.T) {
	if book.Spare != "spare" {
		t.Errorf("Spare: %s", book.Spare)
	}
	for _, s := range append(wrongNames(), "log", "spare") {
		unopened(t, "no disk", nil, s, refuse)
	}
	for _, down := range []bool{false, true} {
		d := laid(t, record("a"), "x")
		does(t, d.Append("spare", "yz"))
		if down {
			d.Fuse(1, 0)
			answered(t, "cut off", d.Sync("log"), off)
		}
		before := told(d)
		for _, s := range append(wrongNames(), "spare") {
			unopened(t, "no name", d, s, refuse)
		}
		if down {
			unopened(t, "down", d, "log", off)
			unopened(t, "down", d, "other", off)
		}
		if told(d) != before {
			t.Errorf("%s became %s", before, told(d))
		}
	}
	unopened(t, "a disk that nobody made", new(disk.Disk), "log", off)
}

// 24.1: of a file that isn't there, or is empty, no texts; nothing is done to the disk.
func TestOpenEmpty(t *testing.T) {
	d := disk.New()
	has(t, "no file", opened(t, d, "log"), 0)
	lone(t, "no file", d)
	does(t, d.Append("log", ""))
	has(t, "an empty file", opened(t, d, "log"), 0)
	is(t, "an empty file", d, "log", 0, "")
	did(t, "an empty file", d, 1)
	for _, s := range []string{"a", "spares", "memo", strings.Repeat("z", 16)} {
		has(t, s, opened(t, d, s), 0)
	}
}

// 24.1: of right records alone their texts; sure are those whose records are, to their last byte; nothing is done to the disk.
func TestOpenRight(t *testing.T) {
	l := []string{"", "a", "bcd", "\x00\xa5\xff", strings.Repeat("e", 200), ""}
	all := records(l...)
	for sure := range len(all) + 1 {
		d := laid(t, all[:sure], all[sure:])
		ops, want := d.Ops(), 0
		for want < len(l) && len(records(l[:want+1]...)) <= sure {
			want++
		}
		has(t, "sure up to "+strconv.Itoa(sure), opened(t, d, "log"), want, l...)
		is(t, "opened", d, "log", sure, all)
		did(t, "opened", d, ops)
	}
}

// 24.1: bytes behind the right records go: the texts are written anew, and sure.
func TestOpenForeign(t *testing.T) {
	for _, l := range [][]string{nil, {"a"}, {"", "bc", strings.Repeat("d", 300)}} {
		for _, x := range foreign() {
			all := records(l...) + x
			for _, sure := range []int{0, len(all) / 2, len(all) - 1, len(all)} {
				d := laid(t, all[:sure], all[sure:])
				ops := d.Ops()
				has(t, "opened", opened(t, d, "log"), len(l), l...)
				is(t, "opened", d, "log", len(records(l...)), records(l...))
				lone(t, "opened", d, "log")
				did(t, "opened", d, ops+max(len(l), 1)+2)
				has(t, "once more", opened(t, d, "log"), len(l), l...)
				did(t, "once more", d, ops+max(len(l), 1)+2)
			}
		}
	}
}

// 24.1: a spare file that is there is removed, whatever stands in it, and nothing of it is taken.
func TestOpenSpare(t *testing.T) {
	for _, s := range []string{"", "x", record("other"), records("a", "b", "c")} {
		for _, x := range []struct {
			log  string
			ops  int
			want []string
		}{{"", 1, nil}, {records("a", "b"), 1, []string{"a", "b"}}, {records("a", "b") + "x", 5, []string{"a", "b"}}, {"x", 4, nil}} {
			d := laid(t, x.log, "")
			does(t, d.Load("spare", s))
			has(t, "opened", opened(t, d, "log"), len(x.want), x.want...)
			lone(t, "opened", d, "log")
			is(t, "opened", d, "log", len(records(x.want...)), records(x.want...))
			did(t, "opened", d, x.ops)
		}
	}
	d := disk.New()
	does(t, d.Load("spare", record("a")))
	has(t, "the spare file alone", opened(t, d, "log"), 0)
	lone(t, "the spare file alone", d)
}

// 24.1: what is there behind an Open that is cut off at each of its operations, all woken.
func TestOpenCut(t *testing.T) {
	anew := record("a") + record("b")
	for _, keep := range cutKeeps {
		come := func(s string) string { return s[:max(0, min(keep, len(s)))] }
		wants := []map[string]string{
			{"log": anew + "xyz", "spare": "old"},
			{"log": anew + "xyz", "spare": come(record("a"))},
			{"log": anew + "xyz", "spare": record("a") + come(record("b"))},
			{"log": anew + "xyz", "spare": anew},
			{"log": anew + "xyz", "spare": anew},
		}
		for i, want := range wants {
			d := laid(t, anew, "xyz")
			does(t, d.Load("spare", "old"))
			d.Fuse(i+1, keep)
			unopened(t, "cut off", d, "log", off)
			did(t, "cut off", d, i+2)
			if sure := d.Sure("spare"); i == 4 && sure != len(anew) || i > 0 && i < 4 && sure != 0 {
				t.Errorf("cut off at %d: %d bytes of the spare file are sure", i+1, sure)
			}
			d.Wake(many, many)
			for file, s := range want {
				is(t, "cut off at "+strconv.Itoa(i+1), d, file, len(s), s)
			}
			has(t, "opened again", opened(t, d, "log"), 2, "a", "b")
			lone(t, "opened again", d, "log")
		}
		d := laid(t, anew, "xyz")
		does(t, d.Load("spare", "old"))
		d.Fuse(len(wants)+1, keep)
		has(t, "not cut off", opened(t, d, "log"), 2, "a", "b")
	}
}

// 24.2: the chapter's example.
func TestExample(t *testing.T) {
	for keep := range 9 {
		d := disk.New()
		b := opened(t, d, "log")
		does(t, b.Append("a"), b.Sync(), b.Append("b"))
		d.Wake(keep)
		if keep < len(record("b")) {
			has(t, "woken", opened(t, d, "log"), 1, "a")
		} else {
			has(t, "woken", opened(t, d, "log"), 2, "a", "b")
		}
	}
}

// 24.2: texts that are appended stand in the file as records, and wait until a Sync.
func TestAppend(t *testing.T) {
	d := laid(t, record("old"), "")
	b := opened(t, d, "log")
	want := []string{"old"}
	for i, s := range []string{"", "a", "\x00\xa5\xff", record("x"), "", strings.Repeat("b", 5000)} {
		answered(t, brief(s), b.Append(s), fine)
		want = append(want, s)
		has(t, brief(s), b, 1, want...)
		is(t, brief(s), d, "log", len(record("old")), records(want...))
		did(t, brief(s), d, i+1)
	}
	answered(t, "Sync", b.Sync(), fine)
	has(t, "synced", b, len(want), want...)
	is(t, "synced", d, "log", len(records(want...)), records(want...))
	answered(t, "Append", b.Append("last"), fine)
	has(t, "behind a Sync", b, len(want), append(want, "last")...)
	lone(t, "behind all", d, "log")
	did(t, "behind all", d, 8)
	has(t, "opened once more", opened(t, d, "log"), len(want), append(want, "last")...)
}

// 24.2: a text may have as many bytes as a record's may, and not one more; what is too long changes nothing.
func TestAppendLong(t *testing.T) {
	some := strings.Repeat("ab", longest/2)
	d := disk.New()
	b := opened(t, d, "log")
	answered(t, "one more", b.Append(some+"x"), long)
	answered(t, "many more", b.Append(some+some), long)
	has(t, "too long", b, 0)
	lone(t, "too long", d)
	does(t, b.Append("a"), b.Append(some), b.Append(some[1:]))
	answered(t, "one more", b.Append(some+"x"), long)
	has(t, "the longest", b, 0, "a", some, some[1:])
	is(t, "the longest", d, "log", 0, records("a", some, some[1:]))
	did(t, "the longest", d, 3)
	d.Fuse(1, 0)
	answered(t, "cut off", b.Append("b"), off)
	answered(t, "too long for a disk that is down", b.Append(some+"x"), long)
	answered(t, "too long for a disk that is down", b.Rewrite([]string{"a", some + "x"}), long)
}

// 24.2: what the disk refuses, because its file is full, and what it takes still.
func TestAppendFull(t *testing.T) {
	d := disk.New()
	b := opened(t, d, "log")
	some := strings.Repeat("a", longest)
	var want []string
	for range 63 {
		want = append(want, some)
		does(t, b.Append(some))
	}
	does(t, b.Sync())
	rest := full - len(records(want...)) - 8 // three bytes of length, the mark and the seal
	answered(t, "one byte too many", b.Append(some[:rest+1]), long)
	has(t, "refused", b, 63, want...)
	did(t, "refused", d, 64)
	answered(t, "as many as there is place for", b.Append(some[:rest]), fine)
	want = append(want, some[:rest])
	is(t, "full", d, "log", full-len(record(some[:rest])), records(want...))
	answered(t, "nothing", b.Append(""), long)
	has(t, "full", b, 63, want...)
	has(t, "opened", opened(t, d, "log"), 63, want...)
}

// 24.2: an Append that is cut off: it is no text of the book, whatever came of it.
func TestAppendCut(t *testing.T) {
	for _, keep := range cutKeeps {
		d := disk.New()
		b := opened(t, d, "log")
		does(t, b.Append("a"), b.Sync(), b.Append("b"))
		d.Fuse(1, keep)
		answered(t, "Append", b.Append("cd"), off)
		has(t, "cut off", b, 1, "a", "b")
		d.Wake(many)
		come := record("cd")[:max(0, min(keep, len(record("cd"))))]
		is(t, "woken", d, "log", len(records("a", "b")+come), records("a", "b")+come)
	}
}

// 24.2: a Sync makes all texts sure by one operation, if there are such as are not; else it does nothing.
func TestSync(t *testing.T) {
	d := disk.New()
	b := opened(t, d, "log")
	does(t, b.Sync(), b.Sync())
	did(t, "no texts", d, 0)
	lone(t, "no texts", d)
	does(t, b.Append("a"), b.Append("b"))
	has(t, "appended", b, 0, "a", "b")
	does(t, b.Sync())
	has(t, "synced", b, 2, "a", "b")
	did(t, "synced", d, 3)
	does(t, b.Sync(), b.Sync(), opened(t, d, "log").Sync())
	did(t, "nothing to make sure", d, 3)
	does(t, b.Rewrite([]string{"c"}), b.Sync())
	did(t, "nothing to make sure", d, 6)

	d = laid(t, records("a", "b"), record("c")+record("d"))
	b = opened(t, d, "log")
	has(t, "opened", b, 2, "a", "b", "c", "d")
	does(t, b.Sync())
	has(t, "synced", b, 4, "a", "b", "c", "d")
	is(t, "synced", d, "log", len(records("a", "b", "c", "d")), records("a", "b", "c", "d"))
	did(t, "synced", d, 2)
	d.Fuse(1, 0)
	does(t, b.Sync())
	has(t, "nothing to cut off", b, 4, "a", "b", "c", "d")
}

// 24.2: a Sync that is cut off, or refused because the file is gone, makes nothing sure.
func TestSyncRefused(t *testing.T) {
	d := disk.New()
	b := opened(t, d, "log")
	does(t, b.Append("a"), b.Sync(), b.Append("b"))
	d.Fuse(1, many)
	answered(t, "cut off", b.Sync(), off)
	has(t, "cut off", b, 1, "a", "b")
	answered(t, "down", b.Sync(), off)
	d.Wake(0)
	has(t, "opened", opened(t, d, "log"), 1, "a")

	d = disk.New()
	b = opened(t, d, "log")
	does(t, b.Append("a"), d.Remove("log"))
	answered(t, "the file is gone", b.Sync(), lacks)
}

// 24.2: texts that are written anew are the book's, all sure: one operation for each, one for the Sync, one for the Rename, and one for a spare file that is there.
func TestRewrite(t *testing.T) {
	for _, had := range [][]string{nil, {"a"}, {"a", "b", "c"}} {
		for _, l := range [][]string{nil, {}, {""}, {"b"}, {"a", "b", "c"}, {"c", "c", "\xa5"}, {strings.Repeat("a", longest), "", strings.Repeat("b", longest)}} {
			for _, spare := range []bool{false, true} {
				d := disk.New()
				b := opened(t, d, "log")
				for _, s := range had {
					does(t, b.Append(s))
				}
				ops := d.Ops() + max(len(l), 1) + 2
				if spare {
					does(t, d.Load("spare", record("old")))
					ops++
				}
				does(t, b.Rewrite(l))
				has(t, "written anew", b, len(l), l...)
				is(t, "written anew", d, "log", len(records(l...)), records(l...))
				lone(t, "written anew", d, "log")
				did(t, "written anew", d, ops)
				does(t, b.Append("more"))
				is(t, "appended", d, "log", len(records(l...)), records(l...)+record("more"))
				has(t, "appended", b, len(l), append(slices.Clone(l), "more")...)
				does(t, b.Sync())
				has(t, "synced", b, len(l)+1, append(slices.Clone(l), "more")...)
			}
		}
	}
}

// 24.2: where a text is too long, wherever it stands, nothing was done.
func TestRewriteLong(t *testing.T) {
	beyond := strings.Repeat("a", longest+1)
	for _, l := range [][]string{{beyond}, {beyond, "x"}, {"x", beyond, "y"}, {"x", "y", beyond}, {beyond, beyond}} {
		d := laid(t, record("a"), record("b"))
		b := opened(t, d, "log")
		does(t, d.Load("spare", "old"))
		before := told(d)
		answered(t, "too long", b.Rewrite(l), long)
		has(t, "too long", b, 1, "a", "b")
		if told(d) != before {
			t.Errorf("%s became %s", before, told(d))
		}
	}
}

// 24.2: where the texts are too long for a file, the book and its file are as they were, and may be written anew.
func TestRewriteFull(t *testing.T) {
	d := laid(t, record("a"), record("b"))
	b := opened(t, d, "log")
	some := strings.Repeat("c", longest)
	l := slices.Repeat([]string{some}, 64)
	answered(t, "too long for a file", b.Rewrite(l), long)
	has(t, "refused", b, 1, "a", "b")
	is(t, "refused", d, "log", len(record("a")), records("a", "b"))
	does(t, b.Append("d"))
	l[0] = some[:full-63*len(record(some))-8]
	answered(t, "as long as a file may be", b.Rewrite(l), fine)
	has(t, "full", b, 64, l...)
	lone(t, "full", d, "log")
	is(t, "full", d, "log", full, records(l...))
	answered(t, "nothing behind it", b.Append(""), long)
}

// 24.2: what is there behind a Rewrite that is cut off at each of its operations, all woken; the book has what it had.
func TestRewriteCut(t *testing.T) {
	for _, keep := range cutKeeps {
		come := func(s string) string { return s[:max(0, min(keep, len(s)))] }
		for _, x := range []struct {
			l      []string
			spares []string // what the spare file has, cut off at each operation; "-": it is not there
		}{
			{nil, []string{"old", "", "", ""}},
			{[]string{"xy", "z"}, []string{"old", come(record("xy")), record("xy") + come(record("z")), records("xy", "z"), records("xy", "z")}},
		} {
			for i, want := range x.spares {
				d := laid(t, record("a"), record("b"))
				b := opened(t, d, "log")
				does(t, d.Load("spare", "old"))
				d.Fuse(i+1, keep)
				answered(t, "cut off", b.Rewrite(x.l), off)
				has(t, "cut off", b, 1, "a", "b")
				did(t, "cut off", d, i+2)
				d.Wake(many, many)
				is(t, "cut off at "+strconv.Itoa(i+1), d, "log", len(records("a", "b")), records("a", "b"))
				is(t, "cut off at "+strconv.Itoa(i+1), d, "spare", len(want), want)
				has(t, "opened again", opened(t, d, "log"), 2, "a", "b")
				lone(t, "opened again", d, "log")
			}
			d := laid(t, record("a"), record("b"))
			b := opened(t, d, "log")
			does(t, d.Load("spare", "old"))
			d.Fuse(len(x.spares)+1, keep)
			answered(t, "not cut off", b.Rewrite(x.l), fine)
		}
	}
}

// 24.2: behind a refusal by a disk that is down the book has what it had.
func TestDown(t *testing.T) {
	d := laid(t, record("a"), record("b"))
	b := opened(t, d, "log")
	d.Fuse(1, 0)
	answered(t, "cut off", d.Append("other", "x"), off)
	answered(t, "Append", b.Append("c"), off)
	answered(t, "Sync", b.Sync(), off)
	answered(t, "Rewrite", b.Rewrite([]string{"c"}), off)
	answered(t, "Rewrite", b.Rewrite(nil), off)
	has(t, "down", b, 1, "a", "b")
	did(t, "down", d, 2)
}

// 24.2: two books of one disk share nothing but the spare file.
func TestTwo(t *testing.T) {
	d := disk.New()
	a, b := opened(t, d, "a"), opened(t, d, "b")
	does(t, a.Append("x"), b.Append("y"), a.Append("z"), a.Sync(), b.Rewrite([]string{"v", "w"}), a.Append("u"))
	has(t, "one", a, 2, "x", "z", "u")
	has(t, "the other one", b, 2, "v", "w")
	lone(t, "both", d, "a", "b")
	is(t, "one", d, "a", len(records("x", "z")), records("x", "z", "u"))
}

// 24.3: lists that were handed in or out are the caller's own.
func TestMemory(t *testing.T) {
	d := disk.New()
	b := opened(t, d, "log")
	handed := []string{"a", "b", "behind", "its end"}
	does(t, b.Rewrite(handed[:2]))
	if !slices.Equal(handed, []string{"a", "b", "behind", "its end"}) {
		t.Errorf("what was handed in became %v", handed)
	}
	handed[0], handed[1] = "changed", "changed"
	has(t, "behind a change of what was handed in", b, 2, "a", "b")
	first := b.Texts()
	does(t, b.Append("c"))
	if handed[2] != "behind" || !slices.Equal(first, []string{"a", "b"}) {
		t.Errorf("a later Append changed %v or %v", handed, first)
	}
	for _, l := range [][]string{b.Texts(), first} {
		l[0] = "changed"
		_ = append(l[:1], "changed", "changed", "changed")
	}
	has(t, "behind a change of what was handed out", b, 2, "a", "b", "c")
	told := b.Texts()
	does(t, b.Append("d"), b.Rewrite([]string{"e", "f", "g", "h", "i"}), b.Append("j"))
	if !slices.Equal(told, []string{"a", "b", "c"}) {
		t.Errorf("what was handed out became %v", told)
	}
	other := b.Texts()
	other[0] = "changed"
	has(t, "behind all", b, 5, "e", "f", "g", "h", "i", "j")
	is(t, "behind all", d, "log", len(records("e", "f", "g", "h", "i")), records("e", "f", "g", "h", "i", "j"))
}

// 24.3: a book that nobody made.
func TestNil(t *testing.T) {
	for _, b := range []*book.Book{nil, new(book.Book)} {
		for _, s := range []string{"", "a", strings.Repeat("a", longest+1)} {
			answered(t, "Append", b.Append(s), refuse)
			answered(t, "Rewrite", b.Rewrite([]string{"x", s}), refuse)
		}
		answered(t, "Rewrite", b.Rewrite(nil), refuse)
		answered(t, "Sync", b.Sync(), refuse)
		has(t, "nobody's", b, 0)
	}
}

// 24.1: a file that is as long as may be, of the shortest records, with one byte behind them, too.
func TestOpenFull(t *testing.T) {
	n := full / len(record(""))
	all := strings.Repeat(record(""), n)
	d := laid(t, all, "")
	if b := opened(t, d, "log"); b.Sure() != n || len(b.Texts()) != n {
		t.Errorf("%d texts, %d sure, not %d", len(b.Texts()), b.Sure(), n)
	}
	did(t, "right records alone", d, 0)
	does(t, d.Append("log", "x"))
	if b := opened(t, d, "log"); b.Sure() != n || len(b.Texts()) != n {
		t.Errorf("%d texts, %d sure, not %d", len(b.Texts()), b.Sure(), n)
	}
	did(t, "one byte behind them", d, n+3)
	is(t, "one byte behind them", d, "log", len(all), all)
}
