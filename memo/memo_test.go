package memo_test

import (
	"math"
	"slices"
	"strconv"
	"strings"
	"testing"

	"treillage/api"
	"treillage/book"
	"treillage/disk"
	"treillage/memo"
)

// 26.1: what can't be opened: slots out of their bounds ahead of all else, and what the book refuses; nothing has changed.
func TestOpenWrong(t *testing.T) {
	for _, down := range []bool{false, true} {
		d := disk.New()
		does(t, d.Append("log", record("junk")+"x"), d.Append("spare", "y"))
		if down {
			d.Fuse(1, 0)
			answered(t, "cut off", d.Sync("log"), off)
		}
		before := told(d)
		for _, slots := range []int{0, -1, -mostSlots, mostSlots + 1, math.MinInt, math.MaxInt, 1 << 32} {
			for _, file := range []string{"log", "spare", "other", ""} {
				unopened(t, "slots", d, file, slots, refuse)
				unopened(t, "slots", nil, file, slots, refuse)
			}
		}
		for _, file := range []string{"", "spare", "A", "1", "a.b", "a-b", "a\n", "int", "true", strings.Repeat("a", 17), strings.Repeat("a", 1<<16)} {
			unopened(t, "no name", d, file, 8, refuse)
			unopened(t, "no disk", nil, file, 8, refuse)
		}
		unopened(t, "no disk", nil, "log", 8, refuse)
		if down {
			unopened(t, "down", d, "log", 1, off)
			unopened(t, "down", d, "other", mostSlots, off)
		}
		if told(d) != before {
			t.Errorf("%s became %s", before, told(d))
		}
	}
	unopened(t, "a disk that nobody made", new(disk.Disk), "log", 8, off)
	// Opening clears the spare file away, and what stands behind the records: remove, append, sync, rename.
	for n := 1; n <= 4; n++ {
		d := disk.New()
		does(t, d.Load("log", record(written(short("a")))+"x"), d.Load("spare", "y"))
		d.Fuse(n, 0)
		unopened(t, "cut off", d, "log", 8, off)
		d.Wake()
		has(t, "woken", opened(t, d, 8), short("a"))
	}
}

// 26.1: a memo of no file, of an empty one, of any slots.
func TestOpenEmpty(t *testing.T) {
	for _, slots := range []int{1, 2, 7, mostSlots - 1, mostSlots} {
		d := disk.New()
		m := opened(t, d, slots)
		has(t, "no file", m)
		gets(t, m, "")
		gets(t, m, "a")
		if len(d.Names()) != 0 || d.Ops() != 0 {
			t.Errorf("opening did something: %s", told(d))
		}
		does(t, m.Put(kept("a", 1)), m.Put(kept("b", 2)))
		gets(t, m, "a", kept("a", 1))
		gets(t, m, "b", kept("b", 2))
		does(t, d.Load("log", ""))
		has(t, "an empty file", opened(t, d, slots))
	}
	for _, file := range []string{"a", "spares", "memo", strings.Repeat("z", 16)} {
		if m, e := memo.Open(disk.New(), file, 8); m == nil || e != fine {
			t.Errorf("Open(%s): %d", file, e)
		}
	}
}

// 26.1: texts that are no entry's are passed over, wherever they stand; they stay behind a Put and a Sync, and go with a Keep.
func TestForeign(t *testing.T) {
	a, b, c := written(kept("a", 1)), written(kept("b", 2)), written(kept("c", 3))
	for _, s := range foreign() {
		for _, l := range [][]string{{s, a, b}, {a, s, b}, {a, b, s}, {s, s, a, s, b, s}} {
			d := laid(t, l...)
			m := opened(t, d, 4)
			has(t, "opened", m, kept("a", 1), kept("b", 2))
			gets(t, m, "a", kept("a", 1))
			gets(t, m, "b", kept("b", 2))
			if got := texts(t, d); !slices.Equal(got, l) {
				t.Errorf("opening wrote anew: %s", brief(got))
			}
			does(t, m.Put(kept("c", 3)), m.Put(kept("a", 1)), m.Sync())
			if got := texts(t, d); !slices.Equal(got, append(slices.Clone(l), c)) {
				t.Errorf("behind Put and Sync: %s", brief(got))
			}
			does(t, m.Keep(9))
			has(t, "kept", m, kept("a", 1), kept("b", 2), kept("c", 3))
			if got := texts(t, d); !slices.Equal(got, []string{a, b, c}) {
				t.Errorf("behind Keep: %s", brief(got))
			}
		}
		d := laid(t, s)
		has(t, "alone", opened(t, d, 4))
	}
	// An entry that stands in the book twice is there twice.
	m := opened(t, laid(t, a, b, a), 4)
	has(t, "twice", m, kept("a", 1), kept("b", 2), kept("a", 1))
	gets(t, m, "a", kept("a", 1), kept("a", 1))
	does(t, m.Put(kept("a", 1)))
	has(t, "put once more", m, kept("a", 1), kept("b", 2), kept("a", 1))
	does(t, m.Keep(2))
	has(t, "kept", m, kept("b", 2), kept("a", 1))
	gets(t, m, "a", kept("a", 1))
}

// 26.1: what is found has just the key, whatever else is in its bucket, the last one first.
func TestGet(t *testing.T) {
	for _, slots := range []int{1, 2, 3, mostSlots} {
		d := disk.New()
		m := opened(t, d, slots)
		l := []api.Entry{kept("a", 1), kept("b", 1), kept("a", 2), short("a"), kept("aa", 1), kept("a\x00", 1), kept("A", 1), kept("b", 3), kept("a", 3), kept("c", 1)}
		for _, x := range l {
			does(t, m.Put(x))
		}
		for _, m := range []*memo.Memo{m, opened(t, d, slots), opened(t, d, 5)} {
			has(t, "all", m, l...)
			gets(t, m, "a", kept("a", 3), short("a"), kept("a", 2), kept("a", 1))
			gets(t, m, "b", kept("b", 3), kept("b", 1))
			gets(t, m, "c", kept("c", 1))
			gets(t, m, "aa", kept("aa", 1))
			gets(t, m, "a\x00", kept("a\x00", 1))
			gets(t, m, "A", kept("A", 1))
			for _, s := range []string{"", "d", "aaa", "\x00", "a ", strings.Repeat("a", 1<<17)} {
				gets(t, m, s)
			}
		}
	}
	// Two keys whose numbers are the same modulo 1,024, found among many.
	m, d := opened(t, disk.New(), mostSlots), laid(t)
	many := opened(t, d, 1)
	for i := range 3000 {
		does(t, m.Put(short("k"+strconv.Itoa(i))))
		if i%100 == 0 {
			does(t, many.Put(short("k"+strconv.Itoa(i))))
		}
	}
	for i := range 3000 {
		gets(t, m, "k"+strconv.Itoa(i), short("k"+strconv.Itoa(i)))
	}
	gets(t, many, "k100", short("k100"))
	gets(t, many, "k101")
}

// 26.2: what Put refuses: what is not right, what is too long, what the book refuses; the Same again is nothing at all.
func TestPut(t *testing.T) {
	d := disk.New()
	m := opened(t, d, 4)
	does(t, m.Put(kept("a", 1)), m.Put(kept("b", 1)))
	has(t, "put", m, kept("a", 1), kept("b", 1))
	before := told(d)
	for _, x := range broken() {
		answered(t, "not right: "+brief(x), m.Put(x), refuse)
	}
	big := sized(t, mostBytes)
	more := big
	more.Key += "k"
	answered(t, "too long", m.Put(more), long)
	does(t, m.Put(kept("a", 1)), m.Put(kept("b", 1)), m.Put(kept("a", 1)))
	has(t, "put again", m, kept("a", 1), kept("b", 1))
	if told(d) != before {
		t.Errorf("%s became %s", before, told(d))
	}
	does(t, m.Put(big), m.Put(big))
	has(t, "put", m, kept("a", 1), kept("b", 1), big)
	l := []api.Entry{kept("a", 1), kept("b", 1), big}
	for _, change := range []func(x *api.Entry){
		func(x *api.Entry) { x.Key = "c" },
		func(x *api.Entry) { x.Steps++ },
		func(x *api.Entry) { x.R = came(closed("m", number(2))) },
		func(x *api.Entry) { x.R = wrong(26) },
		func(x *api.Entry) { x.Deps = x.Deps[:1] },
		func(x *api.Entry) { x.Deps[0], x.Deps[1] = x.Deps[1], x.Deps[0] },
		func(x *api.Entry) { x.Deps[0].R.V.Terms[0].Fields[0].V.Terms[0].Hi++ },
	} {
		x := kept("a", 1)
		change(&x)
		does(t, m.Put(x), m.Put(x))
		l = append(l, x)
		has(t, "unlike", m, l...)
	}
	has(t, "opened", opened(t, d, 4), l...)
	// Of a disk that is cut off what is there already is put all the same.
	d.Fuse(1, many)
	answered(t, "cut off", m.Put(kept("z", 1)), off)
	answered(t, "down", m.Put(kept("y", 1)), off)
	answered(t, "down", m.Put(kept("a", 1)), fine)
	answered(t, "down", m.Put(broken()[0]), refuse)
	answered(t, "down", m.Put(more), long)
	has(t, "refused", m, l...)
	gets(t, m, "z")
}

// 26.2: a file that is full refuses, as the book does; a lesser entry may be put still.
func TestFull(t *testing.T) {
	d := disk.New()
	m := opened(t, d, 4)
	var l []api.Entry
	for i := range 63 {
		x := sized(t, mostBytes)
		x.Steps = 1 + i
		does(t, m.Put(x))
		l = append(l, x)
	}
	x := sized(t, mostBytes)
	x.Steps = 100
	before := d.Ops()
	answered(t, "full", m.Put(x), long)
	has(t, "full", m, l...)
	if len(m.Get(x.Key)) != 63 || d.Ops() != before {
		t.Errorf("%d, %d operations", len(m.Get(x.Key)), d.Ops())
	}
	does(t, m.Put(short("a")), m.Keep(2))
	has(t, "kept", m, l[62], short("a"))
	does(t, m.Put(x))
	has(t, "put", opened(t, d, 4), l[62], short("a"), x)
}

// 26.2: Sync is the book's: nothing, if all is sure; refused as the disk refuses it.
func TestSync(t *testing.T) {
	d := disk.New()
	m := opened(t, d, 4)
	does(t, m.Sync())
	if d.Ops() != 0 {
		t.Errorf("%d operations", d.Ops())
	}
	does(t, m.Put(short("a")), m.Put(short("b")), m.Sync(), m.Sync(), m.Put(short("b")), m.Sync())
	if s, _ := d.Read("log"); d.Ops() != 3 || d.Sure("log") != len(s) {
		t.Errorf("%s", told(d))
	}
	does(t, m.Put(short("c")))
	d.Fuse(1, 0)
	answered(t, "cut off", m.Sync(), off)
	has(t, "cut off", m, short("a"), short("b"), short("c"))
	d.Wake()
	has(t, "woken", opened(t, d, 4), short("a"), short("b"))
}

// 26.2: the last entries are kept, in order, all sure; of any numbers.
func TestKeep(t *testing.T) {
	l := []api.Entry{kept("a", 1), kept("b", 1), kept("a", 2), kept("c", 1), kept("a", 3)}
	for most, want := range map[int]int{math.MinInt: 0, -5: 0, -1: 0, 0: 0, 1: 1, 2: 2, 3: 3, 4: 4, 5: 5, 6: 5, 1000: 5, math.MaxInt: 5} {
		d := disk.New()
		m := opened(t, d, 3)
		for _, x := range l {
			does(t, m.Put(x))
		}
		ops := d.Ops()
		does(t, m.Keep(most))
		left := l[5-want:]
		has(t, "kept", m, left...)
		// Appended are the records one by one, or of none an empty text; then it is synced, and renamed.
		if s, _ := d.Read("log"); d.Sure("log") != len(s) || len(d.Names()) != 1 || d.Ops() != ops+max(want, 1)+2 {
			t.Errorf("Keep(%d): %s", most, told(d))
		}
		for _, key := range []string{"a", "b", "c", "d"} {
			var found []api.Entry
			for _, x := range slices.Backward(left) {
				if x.Key == key {
					found = append(found, x)
				}
			}
			gets(t, m, key, found...)
			gets(t, opened(t, d, 3), key, found...)
		}
		// What went may be put anew, and stands behind the others.
		does(t, m.Put(l[0]), m.Put(l[4]), m.Keep(2))
		switch {
		case want == 5:
			has(t, "put anew", m, l[3], l[4])
		case want == 0:
			has(t, "put anew", m, l[0], l[4])
		default:
			has(t, "put anew", m, l[4], l[0])
		}
	}
	d := disk.New()
	m := opened(t, d, 3)
	does(t, m.Keep(3), m.Keep(0), m.Put(l[0]), m.Keep(1), m.Keep(1))
	has(t, "kept", m, l[0])
}

// 26.2: a Keep that is refused at any of its operations changes nothing of the memo.
func TestKeepRefused(t *testing.T) {
	for n := 1; n <= 5; n++ {
		d := laid(t, written(kept("a", 1)), "junk", written(kept("b", 1)), written(kept("a", 2)))
		m := opened(t, d, 3)
		does(t, d.Append("spare", "x"))
		d.Fuse(n, 3)
		answered(t, "cut off", m.Keep(2), off)
		has(t, "cut off", m, kept("a", 1), kept("b", 1), kept("a", 2))
		gets(t, m, "a", kept("a", 2), kept("a", 1))
		answered(t, "down", m.Keep(3), off)
		has(t, "down", m, kept("a", 1), kept("b", 1), kept("a", 2))
		d.Wake(many, many)
		has(t, "woken", opened(t, d, 3), kept("a", 1), kept("b", 1), kept("a", 2))
		if got := texts(t, d); len(got) != 4 || got[1] != "junk" {
			t.Errorf("the texts %s", brief(got))
		}
	}
}

// 26.2, R8: of nil, and of one that nobody made, nothing.
func TestNil(t *testing.T) {
	for _, m := range []*memo.Memo{nil, new(memo.Memo)} {
		answered(t, "Put", m.Put(short("a")), refuse)
		answered(t, "Put", m.Put(broken()[0]), refuse)
		answered(t, "Put", m.Put(api.Entry{Key: "k", Deps: sized(t, mostBytes).Deps, R: came(text(strings.Repeat("x", 256)))}), refuse)
		answered(t, "Sync", m.Sync(), refuse)
		for _, most := range []int{-1, 0, 1, math.MaxInt} {
			answered(t, "Keep", m.Keep(most), refuse)
		}
		has(t, "nil", m)
		gets(t, m, "")
		gets(t, m, "a")
	}
}

// R5: what is handed out, and what was handed in, is never changed by a later call, nor the memo by those who have it.
func TestShares(t *testing.T) {
	spoil := func(l []api.Entry) {
		for i := range l {
			l[i].R.V.Terms[0].Fields[0].V.Terms[0].Lo = -9
			l[i].R.V.Terms[0].Fields[0].Name = "z"
			l[i].Deps[0].R.V.Terms[0].Fields[0].V.Terms[1].Text = "z"
			l[i].Deps[0].R.V.Terms[0].Kind = 1
			l[i].Deps[1] = dep("z", came())
			l[i].Steps = 99
		}
		clear(l[:cap(l)])
	}
	d := disk.New()
	m := opened(t, d, 2)
	want := []api.Entry{kept("a", 1), kept("b", 2), kept("a", 3)}
	for i := range want {
		x := []api.Entry{{Key: want[i].Key}}
		x[0] = kept(want[i].Key, want[i].Deps[0].R.V.Terms[0].Fields[0].V.Terms[0].Lo)
		does(t, m.Put(x[0]))
		if !same(x[0], want[i]) {
			t.Errorf("what was handed in became %s", brief(x[0]))
		}
		spoil(x)
		has(t, "put", m, want[:i+1]...)
	}
	first, found := m.All(), m.Get("a")
	for range 2 {
		spoil(m.All())
		spoil(m.Get("a"))
		spoil(m.Get("b"))
		has(t, "spoilt", m, want...)
		gets(t, m, "a", want[2], want[0])
	}
	does(t, m.Put(kept("c", 4)), m.Keep(2), m.Put(kept("a", 5)), m.Keep(1), m.Keep(0), m.Put(kept("b", 6)))
	if !equal(first, want) || !equal(found, []api.Entry{want[2], want[0]}) {
		t.Errorf("what was handed out became %s, %s", brief(first), brief(found))
	}
	// What lies behind a list's length is not kept.
	x := kept("l", 1)
	x.Deps = x.Deps[:1]
	does(t, m.Put(x))
	got := m.Get("l")[0]
	if l := got.Deps[:cap(got.Deps)]; len(l) > 1 && l[1].Name != "" {
		t.Errorf("handed out: %s", brief(l))
	}
}

// 26.1: the book is another one than those beside it.
func TestBeside(t *testing.T) {
	d := disk.New()
	m := opened(t, d, 2)
	other, e := memo.Open(d, "other", 2)
	does(t, e, m.Put(kept("a", 1)), other.Put(kept("b", 1)), other.Keep(0), other.Put(kept("c", 1)), m.Keep(1))
	has(t, "log", opened(t, d, 2), kept("a", 1))
	b, e := book.Open(d, "other")
	if e != fine || !slices.Equal(b.Texts(), []string{written(kept("c", 1))}) {
		t.Errorf("%s %d", brief(b.Texts()), e)
	}
}
