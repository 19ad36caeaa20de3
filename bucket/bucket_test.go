package bucket_test

import (
	"hash/fnv"
	"math"
	"math/big"
	"slices"
	"strconv"
	"strings"
	"testing"

	"treillage/api"
	"treillage/bucket"
)

// texts are the empty one, all of one byte, and some of many lengths.
func texts() []string {
	l := []string{"", "\x00\x00", "ab", "ba", "foobar", "é\n", "\xff\xfe\xfd", strings.Repeat("\x00", 1000), strings.Repeat("ab", 5000)}
	for b := range 256 {
		l = append(l, string([]byte{byte(b)}))
	}
	for i := range 200 {
		l = append(l, "text"+strconv.Itoa(i*i))
	}
	return l
}

// asked is a text's number by the chapter's words, out of numbers without a bound.
func asked(s string) uint64 {
	x, _ := new(big.Int).SetString("14695981039346656037", 10)
	for i := range len(s) {
		x.Xor(x, big.NewInt(int64(s[i])))
		x.Mul(x, big.NewInt(1099511628211))
		x.Mod(x, new(big.Int).Lsh(big.NewInt(1), 64))
	}
	return x.Uint64()
}

// row is an id, and the bucket in which it stands.
type row struct{ slot, id int }

// told is what Each tells, laid into rows.
func told(x *bucket.Index) []row {
	var l []row
	for slot, ids := range x.Each() {
		for _, id := range ids {
			l = append(l, row{slot, id})
		}
	}
	return l
}

// made is an index of so many buckets.
func made(t *testing.T, slots int) *bucket.Index {
	t.Helper()
	x, e := bucket.New(slots)
	if x == nil || e != api.OK {
		t.Fatalf("New(%d): %v %d", slots, x, e)
	}
	return x
}

// two are a text and another one that has the same bucket of so many.
func two(t *testing.T, slots int) (string, string) {
	t.Helper()
	for i := range 1 << 16 {
		if s := "other" + strconv.Itoa(i); bucket.Slot(s, slots) == bucket.Slot("one", slots) {
			return "one", s
		}
	}
	t.Fatalf("no text shares a bucket of %d", slots)
	return "", ""
}

// 5.1: numbers written out, so that they do not hang on what the test reckons with.
func TestOfByHand(t *testing.T) {
	for s, want := range map[string]uint64{"": 14695981039346656037, "a": 12638187200555641996, "foobar": 0x85944171f73967e8, "\x00": 0xaf63bd4c8601b7df} {
		if x := bucket.Of(s); x != want {
			t.Errorf("Of(%q): %d, not %d", s, x, want)
		}
	}
}

// 5.1: the number is that of the chapter's words, and FNV-1a.
func TestOf(t *testing.T) {
	for _, s := range texts() {
		h := fnv.New64a()
		h.Write([]byte(s))
		if x := bucket.Of(s); x != asked(s) || x != h.Sum64() {
			t.Errorf("Of a text of %d bytes, %.20q: %d, not %d", len(s), s, x, asked(s))
		}
	}
}

// 5.1: the bucket is the number modulo how many there are, of numbers from 2^63 on, too.
func TestSlot(t *testing.T) {
	high := 0
	for _, s := range texts() {
		if asked(s) >= 1<<63 {
			high++
		}
		for _, slots := range []int{1, 2, 3, 7, 10, 16, 100, 1000, 1023, 1024} {
			if n := bucket.Slot(s, slots); n != int(asked(s)%uint64(slots)) {
				t.Errorf("Slot(%.20q, %d): %d", s, slots, n)
			}
		}
	}
	if high == 0 || high == len(texts()) {
		t.Errorf("%d of %d numbers are from 2^63 on", high, len(texts()))
	}
}

// 5.1: of so many as there can't be, the bucket is 0, and there is no index.
func TestSlotsBeyond(t *testing.T) {
	for _, slots := range []int{0, -1, -2, -3, -1024, math.MinInt, 1025, 1026, 1 << 20, 1 << 32, 1<<32 + 1, math.MaxInt} {
		for _, s := range texts() {
			if n := bucket.Slot(s, slots); n != 0 {
				t.Errorf("Slot(%.20q, %d): %d", s, slots, n)
			}
		}
		if x, e := bucket.New(slots); x != nil || e != api.ErrArg {
			t.Errorf("New(%d): %v %d", slots, x, e)
		}
	}
}

// 5.1: a new index has no ids, whatever is asked of it.
func TestNew(t *testing.T) {
	for _, slots := range []int{1, 2, 1023, api.MaxSlots} {
		x := made(t, slots)
		if x.Len() != 0 || len(told(x)) != 0 || x.Drop(0) != 0 || len(x.Find("")) != 0 || len(x.Find("a")) != 0 {
			t.Errorf("a new index of %d buckets has ids", slots)
		}
	}
}

// 5.2: the ids of a bucket stand in the order in which they came, those of other texts too.
func TestOneBucket(t *testing.T) {
	for _, slots := range []int{1, 5, api.MaxSlots} {
		a, b := two(t, slots)
		x := made(t, slots)
		for i, s := range []string{b, a, b, b, a} {
			x.Add(s, 90-i*i)
		}
		want := []int{90, 89, 86, 81, 74}
		if l := x.Find(a); !slices.Equal(l, want) {
			t.Errorf("of %d buckets, Find(%q): %v", slots, a, l)
		}
		if l := x.Find(b); !slices.Equal(l, want) {
			t.Errorf("of %d buckets, Find(%q): %v", slots, b, l)
		}
	}
}

// 5.2: each id that was added stands there, as often as it was; dropped, it stands nowhere.
func TestDrop(t *testing.T) {
	x := made(t, 7)
	for _, s := range []string{"a", "b", "a", "c", "a", "d"} {
		x.Add(s, -3)
		x.Add(s, 4)
	}
	if x.Len() != 12 {
		t.Errorf("Len: %d", x.Len())
	}
	if n := x.Drop(5); n != 0 || x.Len() != 12 {
		t.Errorf("Drop of one that is not there: %d, left %d", n, x.Len())
	}
	if n := x.Drop(-3); n != 6 || x.Len() != 6 {
		t.Errorf("Drop: %d, left %d", n, x.Len())
	}
	if n := x.Drop(-3); n != 0 || x.Len() != 6 {
		t.Errorf("Drop once more: %d, left %d", n, x.Len())
	}
	for _, r := range told(x) {
		if r.id != 4 {
			t.Errorf("%d stands in bucket %d", r.id, r.slot)
		}
	}
	if n := x.Drop(4); n != 6 || x.Len() != 0 || len(told(x)) != 0 {
		t.Errorf("Drop of the last ones: %d, left %d", n, x.Len())
	}
}

// 5.2: a bucket of which the last id was dropped is told no more, and has what comes later.
func TestEmptied(t *testing.T) {
	x := made(t, api.MaxSlots)
	for i, s := range texts() {
		x.Add(s, i)
	}
	x.Add("alone", 1<<20)
	slot := bucket.Slot("alone", api.MaxSlots)
	for _, id := range x.Find("alone") {
		x.Drop(id)
	}
	for n, ids := range x.Each() {
		if n == slot || len(ids) == 0 {
			t.Errorf("bucket %d is told: %v", n, ids)
		}
	}
	if l := x.Find("alone"); len(l) != 0 {
		t.Errorf("Find: %v", l)
	}
	x.Add("alone", 8)
	x.Add("alone", 7)
	if l := x.Find("alone"); !slices.Equal(l, []int{8, 7}) {
		t.Errorf("Find behind it: %v", l)
	}
}

// held holds an index against rows in the order in which they came.
func held(t *testing.T, x *bucket.Index, rows []row, slots int) {
	t.Helper()
	if x.Len() != len(rows) {
		t.Errorf("Len: %d, not %d", x.Len(), len(rows))
	}
	want := slices.Clone(rows)
	slices.SortStableFunc(want, func(a, b row) int { return a.slot - b.slot })
	if l := told(x); !slices.Equal(l, want) {
		t.Errorf("Each: %v, not %v", l, want)
	}
	for _, s := range []string{"", "a", "b", "c", "d", "e", "f", "g", "h"} {
		var ids []int
		for _, r := range rows {
			if r.slot == int(asked(s)%uint64(slots)) {
				ids = append(ids, r.id)
			}
		}
		if l := x.Find(s); !slices.Equal(l, ids) {
			t.Errorf("Find(%q): %v, not %v", s, l, ids)
		}
	}
}

// 5.2, 5.3: long runs of what can be done, against a plain list.
func TestLongRuns(t *testing.T) {
	for _, slots := range []int{1, 2, 3, 5, 1000, api.MaxSlots} {
		x := made(t, slots)
		var rows []row
		n := uint32(slots)
		for range 400 {
			n = n*1664525 + 1013904223
			s, id := string([]byte{"abcdefgh"[n>>29]}), int(n>>24%9)-4
			if n>>16%5 == 0 {
				left := slices.DeleteFunc(slices.Clone(rows), func(r row) bool { return r.id == id })
				if dropped := x.Drop(id); dropped != len(rows)-len(left) {
					t.Errorf("Drop(%d): %d, not %d", id, dropped, len(rows)-len(left))
				}
				rows = left
			} else {
				x.Add(s, id)
				rows = append(rows, row{int(asked(s) % uint64(slots)), id})
				if !slices.Contains(x.Find(s), id) {
					t.Errorf("%d is not found with %q", id, s)
				}
			}
			held(t, x, rows, slots)
		}
	}
}

// 5.2: any int is an id.
func TestIds(t *testing.T) {
	x := made(t, 1)
	want := []int{math.MinInt, -1, 0, 1, math.MaxInt, 0}
	for _, id := range want {
		x.Add("", id)
	}
	if l := x.Find("a"); !slices.Equal(l, want) {
		t.Errorf("Find: %v", l)
	}
	if x.Drop(0) != 2 || x.Drop(math.MinInt) != 1 || x.Drop(math.MaxInt) != 1 || x.Len() != 2 {
		t.Errorf("Drop: %v", x.Find(""))
	}
}

// 5.2: Each tells the buckets rising, and no more behind a stop, wherever that is; ranged over again it begins anew.
func TestEachLeft(t *testing.T) {
	x := made(t, 50)
	for i, s := range texts() {
		x.Add(s, i)
	}
	var slots []int
	for slot := range x.Each() {
		slots = append(slots, slot)
	}
	if len(slots) < 40 || !slices.IsSorted(slots) || len(slices.Compact(slices.Clone(slots))) != len(slots) {
		t.Errorf("Each: %v", slots)
	}
	each := x.Each()
	for most := 1; most <= len(slots); most++ {
		var got []int
		each(func(slot int, ids []int) bool {
			got = append(got, slot)
			return len(got) < most
		})
		if !slices.Equal(got, slots[:most]) {
			t.Errorf("left behind %d: %v", most, got)
		}
	}
}

// R5: what is found and told is new memory, up to its capacity, and each time another one.
func TestNewMemory(t *testing.T) {
	x := made(t, 2)
	for id := range 5 {
		x.Add("a", id)
	}
	spoil := func(ids []int) {
		for i := range ids {
			ids[i] = 77
		}
		ids = append(ids, 78)
		for i := range ids[:cap(ids)] {
			ids[:cap(ids)][i] = 79
		}
	}
	want := []int{0, 1, 2, 3, 4}
	each := x.Each()
	for range 3 {
		spoil(x.Find("a"))
		for _, ids := range each {
			if !slices.Equal(ids, want) {
				t.Errorf("Each: %v", ids)
			}
			spoil(ids)
		}
		if l := x.Find("a"); !slices.Equal(l, want) {
			t.Errorf("Find: %v", l)
		}
	}
	l := x.Find("a")
	x.Add("a", 5)
	x.Drop(1)
	if !slices.Equal(l, want) {
		t.Errorf("what was found is changed: %v", l)
	}
}

// R9: what Each answered tells the same each time, whatever is done to the index meanwhile.
func TestEachTellsTheSame(t *testing.T) {
	x := made(t, 3)
	for i, s := range []string{"a", "b", "c", "d", "e", "f"} {
		x.Add(s, i)
	}
	want, each := told(x), x.Each()
	again := func(what string) {
		t.Helper()
		var l []row
		for slot, ids := range each {
			for _, id := range ids {
				l = append(l, row{slot, id})
			}
		}
		if !slices.Equal(l, want) {
			t.Errorf("%s: %v, not %v", what, l, want)
		}
	}
	again("at first")
	x.Add("a", 9)
	again("behind Add")
	x.Drop(0)
	x.Drop(3)
	again("behind Drop")
	x.Add("b", 10)
	x.Add("c", 11)
	again("behind Add and Drop")
	for slot := range each { // changed while it is ranged over
		x.Drop(slot)
		x.Add("f", 12)
		x.Drop(5)
	}
	again("behind changes on the way")
}

// 5.2: of a nil index there is nothing, and Each is there all the same.
func TestNil(t *testing.T) {
	var x *bucket.Index
	x.Add("a", 1)
	if x.Len() != 0 || x.Drop(1) != 0 || x.Find("a") != nil || x.Find("") != nil {
		t.Errorf("a nil index has ids")
	}
	if x.Each() == nil {
		t.Fatalf("Each of a nil index is nil")
	}
	for slot, ids := range x.Each() {
		t.Errorf("Each of a nil index: %d %v", slot, ids)
	}
}

// R1: an index that nobody made does not panic.
func TestNobodyMade(t *testing.T) {
	x := &bucket.Index{}
	x.Add("a", 1)
	if x.Len() != 0 || x.Drop(1) != 0 || x.Find("a") != nil || len(told(x)) != 0 {
		t.Errorf("an index that nobody made has ids")
	}
}

// 5.2: two indexes have nothing in common.
func TestTwo(t *testing.T) {
	x, y := made(t, 4), made(t, 4)
	x.Add("a", 1)
	y.Add("a", 2)
	x.Drop(2)
	if !slices.Equal(x.Find("a"), []int{1}) || !slices.Equal(y.Find("a"), []int{2}) {
		t.Errorf("%v and %v", x.Find("a"), y.Find("a"))
	}
}

// 5.3: what was added with a text is among those that are found with it, of however many.
func TestFound(t *testing.T) {
	for _, slots := range []int{1, 3, 64, 1021, api.MaxSlots} {
		x := made(t, slots)
		for i, s := range texts() {
			x.Add(s, i)
		}
		for i, s := range texts() {
			if !slices.Contains(x.Find(s), i) {
				t.Errorf("of %d buckets: %d is not found with %.20q", slots, i, s)
			}
		}
	}
}
