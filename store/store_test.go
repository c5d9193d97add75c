package store_test

import (
	"math"
	"math/rand"
	"slices"
	"testing"
	"unsafe"

	"packtrain/api"
	"packtrain/store"
	"packtrain/table"
	"packtrain/tree"
)

// The chapter's examples.
func TestExamples(t *testing.T) {
	b := begin(t, 1000)
	b.must(t, opens(100), batch(put("a", "1"), put("b", "2")), batch(gone("a"), put("c", "3"), put("c", "4")))
	contains(t, b.store, model{"b": "2", "c": "4"})
	b.must(t, crash(0), opens(100))
	contains(t, b.store, model{"b": "2", "c": "4"})
	b.fails(t, batch(put("", "x")), api.ErrArg)
}

// Rule 7: a store that Open did not return.
func TestInvalid(t *testing.T) {
	for _, s := range []*store.Store{nil, {}} {
		for _, l := range [][]api.Pair{nil, {put("a", "1")}, {put("", "")}, puts(keys(api.MaxBatch+1), "")} {
			if e := s.Batch(l); e != api.ErrNil {
				t.Error(e)
			}
		}
		if e := s.Order(); e != api.ErrNil || s.Size() != 0 {
			t.Error(e, s.Size())
		}
		if v, ok := s.Get(""); v != "" || ok {
			t.Error(v, ok)
		}
		if l := s.Range("", "", 9); len(l) > 0 || s.Table() != (table.Table{}) {
			t.Error(l)
		}
	}
}

// refuses checks that Open returns an error alone, and does nothing.
func refuses(t *testing.T, f *tree.Tree, p string, grow int, want api.Errno) {
	t.Helper()
	before := look(f)
	if s, e := store.Open(f, p, grow); s != nil || e != want {
		t.Errorf("Open of %q: %v, %d, not %d", p, s, e, want)
	}
	if after := look(f); after != before {
		t.Errorf("Open of %q: the tree is %s after %s", p, after, before)
	}
}

// P7.2: what Open rejects, and in which order.
func TestOpenRejects(t *testing.T) {
	off, full := newTree(t, 100), newTree(t, 0)
	off.Fuse(0)
	off.Read("a")
	full.Make(logPath)
	for _, p := range []string{logPath, "", "A", xs(65)} {
		for _, grow := range []int{-1, math.MinInt} {
			for _, f := range []*tree.Tree{nil, {}, off, full} {
				refuses(t, f, p, grow, api.ErrArg)
			}
		}
		refuses(t, nil, p, 0, api.ErrNil)
		refuses(t, &tree.Tree{}, p, math.MaxInt, api.ErrNil)
	}
	for _, f := range []*tree.Tree{off, full} {
		refuses(t, f, "", 0, api.ErrArg)
		refuses(t, f, tempPath, 0, api.ErrArg)
		refuses(t, f, xs(65), 0, api.ErrLong)
	}
	refuses(t, off, logPath, 0, api.ErrOff)
}

// P7.2: logs that are corrupt, or have a record that is none, wherever it is.
func TestOpenOfWrongLogs(t *testing.T) {
	good := []string{recordOf(put("a", "1")), model{"b": "2"}.all(), recordOf(gone("b"))}
	for _, wrong := range []string{"", "\x00", "\x03\x00", "\x01\x01", recordOf(put("", "")), recordOf(put("a", "1")) + "\x00", model{"a": "1"}.all()[:3]} {
		for at := range len(good) + 1 {
			refuses(t, logged(t, slices.Insert(slices.Clone(good), at, wrong)...), logPath, 0, api.ErrBad)
		}
	}
	f := logged(t, good...)
	yields(t, f, model{})
	frames, _ := f.Read(logPath)
	for _, at := range []int{5, 20, len(frames) - 1} {
		changed := slices.Clone(frames)
		changed[at]++
		f.Write(logPath, changed)
		refuses(t, f, logPath, 0, api.ErrBad)
	}
}

// P7.2: what Open finds: each record is done to what was there before.
func TestOpenOfLogs(t *testing.T) {
	for _, c := range []struct {
		log  []string
		want model
	}{
		{nil, model{}},
		{[]string{recordOf()}, model{}},
		{[]string{model{}.all()}, model{}},
		{[]string{recordOf(put("a", "1")), recordOf(put("b", "2")), recordOf(put("a", "3"))}, model{"a": "3", "b": "2"}},
		{[]string{recordOf(put("a", "1"), put("b", "2")), recordOf(gone("a"), gone("c"))}, model{"b": "2"}},
		{[]string{recordOf(put("a", "1")), model{"b": "2"}.all()}, model{"b": "2"}},
		{[]string{model{"a": "1"}.all(), model{}.all(), recordOf(put("c", "3"))}, model{"c": "3"}},
	} {
		f := logged(t, c.log...)
		size, _, _ := f.Stat(logPath)
		for range 2 {
			if s := yields(t, f, c.want); s.Size() != size {
				t.Errorf("%q: %d bytes, not %d", c.log, s.Size(), size)
			}
		}
		if got := records(t, f); !slices.Equal(got, c.log) {
			t.Errorf("%q became %q", c.log, got)
		}
	}
}

// P7.2: a batch is one record, which is safe; so is an empty one.
func TestBatch(t *testing.T) {
	b := begin(t, api.MaxRoom)
	b.must(t, opens(math.MaxInt))
	var want []string
	for _, l := range [][]api.Pair{
		{put("a", "1"), put("b", "2")},
		{},
		nil,
		{gone("a"), put("c", "3"), put("c", "4"), gone("none")},
		{gone("c"), put("c", ""), put("d", "5"), gone("d")},
		puts(keys(api.MaxBatch), "v"),
		full(15, api.MaxPiece),
		{put(xs(api.MaxKey), xs(api.MaxValue)), gone("z")},
	} {
		b.must(t, batch(l...))
		want = append(want, recordOf(l...))
		if got := records(t, b.tree); !slices.Equal(got, want) {
			t.Errorf("%d records are not those of %d batches", len(got), len(want))
		}
		b.must(t, crash(0))
		if got := records(t, b.tree); !slices.Equal(got, want) {
			t.Errorf("%d records of %d are safe", len(got), len(want))
		}
	}
	yields(t, b.tree, b.twin.has)
}

// P7.2: a batch that is not valid does nothing, breaks nothing, and compacts
// nothing.
func TestBatchRejects(t *testing.T) {
	b := begin(t, api.MaxRoom)
	b.must(t, opens(0), batch(put("a", "1")), batch(put("a", "2")), batch(put("a", "3")))
	for range 2 {
		b.fails(t, batch(put("b", "1"), put("", "2")), api.ErrArg)
		b.fails(t, batch(gone("")), api.ErrArg)
		b.fails(t, batch(append(puts(keys(api.MaxBatch+1), ""), gone(""))...), api.ErrArg)
		b.fails(t, batch(puts(keys(api.MaxBatch+1), "")...), api.ErrLong)
		b.fails(t, batch(put("b", "1"), gone(xs(api.MaxKey+1))), api.ErrLong)
		b.fails(t, batch(put("b", xs(api.MaxValue+1))), api.ErrLong)
		b.fails(t, batch(full(15, api.MaxPiece+1)...), api.ErrLong)
		b.must(t, fuse(0))
	}
	b.must(t, fuse(-1), batch(put("c", "4")))
	contains(t, b.store, model{"a": "3", "c": "4"})
}

// P7.2: Order leaves the record of everything alone, which is safe.
func TestOrder(t *testing.T) {
	b := begin(t, 10000)
	b.must(t, opens(1000))
	ordered := func() {
		t.Helper()
		b.must(t, order(), crash(0))
		if got := records(t, b.tree); !slices.Equal(got, []string{b.twin.has.all()}) {
			t.Errorf("the log has %q", got)
		}
		if got := b.tree.Paths(""); !slices.Equal(got, []string{logPath}) {
			t.Errorf("there are %q", got)
		}
	}
	ordered()
	ordered()
	b.must(t, batch(put("b", "2"), put("a", "1")), batch(put("a", "3")))
	ordered()
	b.must(t, batch(gone("b")), opens(0))
	ordered()
	b.must(t, batch(gone("a")))
	ordered()
	b.must(t, batch())
	yields(t, b.tree, model{})
}

// sizes does a batch again and again, and checks how many bytes the log has
// after each.
func (b *both) sizes(t *testing.T, l []api.Pair, want ...int) {
	t.Helper()
	for i, size := range want {
		b.must(t, batch(l...))
		if b.store.Size() != size {
			t.Fatalf("batch %d of %v: %d bytes, not %d", i, l, b.store.Size(), size)
		}
	}
}

// P7.2: when a store compacts itself: only before a batch, if its log has more
// than Grow bytes, and more than twice as many as everything.
func TestBatchCompacts(t *testing.T) {
	// A batch of this has a frame of 22 bytes, and everything one of 21; that of
	// an empty batch has 10.
	first := batch(put("a", "12345678"))
	for _, c := range []struct {
		grow int
		want []int
	}{
		{0, []int{32, 42, 52, 31, 41, 51, 31}},
		{42, []int{32, 42, 52, 31, 41, 51, 31}},
		{50, []int{32, 42, 52, 31, 41, 51, 31}},
		{51, []int{32, 42, 52, 31, 41, 51, 61, 31}},
		{52, []int{32, 42, 52, 62, 31, 41}},
		{53, []int{32, 42, 52, 62, 31, 41}},
		{1000, []int{32, 42, 52, 62, 72, 82, 92}},
	} {
		b := begin(t, 1000)
		b.must(t, opens(c.grow), first)
		b.sizes(t, nil, c.want...)
	}
}

// P7.2: the store compacts itself also when it contains nothing any more, and
// after it is opened; Order counts as any other compaction.
func TestCompactsLater(t *testing.T) {
	b := begin(t, 1000)
	// Everything has a frame of 10 bytes.
	b.must(t, opens(0))
	b.sizes(t, nil, 10, 20, 30, 20, 30, 20)
	b.must(t, opens(30))
	b.sizes(t, nil, 30, 40, 20)
	b.must(t, opens(math.MaxInt))
	b.sizes(t, nil, 30, 40, 50, 60)
	b.must(t, opens(0))
	// Now everything has one of 13, as the batch that removes it again; the one
	// that puts it has 14.
	b.sizes(t, []api.Pair{put("a", "")}, 24, 38, 27, 27)
	b.must(t, order())
	b.sizes(t, []api.Pair{gone("a")}, 26, 23, 23)
}

// P7.2: a store that contains more than a record can have does not compact
// itself, and Order returns ErrLong, which breaks nothing.
func TestTooMuchToCompact(t *testing.T) {
	b := begin(t, api.MaxRoom)
	much := puts(keys(9), xs(api.MaxValue))
	more := puts([]string{"a", "b", "c", "d", "e", "f", "g"}, xs(api.MaxValue))
	b.must(t, opens(0), batch(much...), batch(more...))
	for range 2 {
		b.fails(t, order(), api.ErrLong)
		b.must(t, batch(much...), batch(more...))
	}
	if n := len(records(t, b.tree)); n != 6 {
		t.Errorf("%d records", n)
	}
	b.must(t, batch(gone("a")), batch())
	if got := records(t, b.tree); !slices.Equal(got, []string{b.twin.has.all(), recordOf()}) {
		t.Errorf("%d records", len(got))
	}
	b.must(t, order())
}

// P7.2: an error of the log at each operation of a batch, of one that compacts,
// and of Order. From then on it is returned, whatever the tree does; the store
// contains what it did.
func TestErrorsOfLog(t *testing.T) {
	three := []call{batch(put("a", "1"), put("c", "3")), batch(put("a", "2")), batch(gone("c"))}
	for _, c := range []struct {
		what  string
		grow  int
		steps int
		call  call
	}{
		{"a batch", 1000, 2, batch(put("b", "3"))},
		{"an empty batch", 1000, 2, batch()},
		{"a batch that compacts", 0, 7, batch(put("b", "3"))},
		{"Order", 1000, 5, order()},
	} {
		for n := range c.steps + 1 {
			b := begin(t, 1000)
			b.must(t, opens(c.grow))
			b.must(t, three...)
			b.must(t, fuse(n))
			if n == c.steps {
				b.must(t, c.call)
				continue
			}
			was := b.twin.has
			for range 2 {
				for _, broken := range []call{c.call, batch(), batch(put("d", "4")), order()} {
					if e := b.do(t, broken); e != api.ErrOff {
						t.Errorf("%s: %d after an error at operation %d", c.what, e, n)
					}
				}
				b.fails(t, batch(put("", "")), api.ErrArg)
				b.fails(t, batch(gone(xs(api.MaxKey+1))), api.ErrLong)
				contains(t, b.store, was)
				b.must(t, crash(9, 1000, 1000))
			}
			b.must(t, opens(c.grow), batch(put("e", "5")), order())
		}
	}
}

// P7.2: there is no room for a batch, or to compact; opened again the store is
// as it was.
func TestNoRoom(t *testing.T) {
	for _, c := range []struct {
		room  int
		grow  int
		calls []call
		last  call
	}{
		{37, 1000, []call{batch(put("a", "1"))}, batch(put("b", "12345678901"))},
		{29, 1000, []call{batch(put("a", "1"))}, batch(put("b", ""), put("c", ""))},
		{28, 1000, []call{batch(put("a", "1"))}, order()},
		{45, 0, []call{batch(put("a", "1")), batch(), batch()}, batch()},
		{48, 0, []call{batch(put("a", "1")), batch(), batch()}, order()},
	} {
		b := begin(t, c.room)
		b.must(t, opens(c.grow))
		b.must(t, c.calls...)
		for _, broken := range []call{c.last, batch(), order()} {
			if e := b.do(t, broken); e != api.ErrFull {
				t.Errorf("room %d: %v: %d", c.room, broken, e)
			}
		}
		contains(t, b.store, model{"a": "1"})
		b.fails(t, batch(put("", "1")), api.ErrArg)
		b.must(t, opens(1000))
		contains(t, b.store, model{"a": "1"})
	}
}

// P7.2: an error of the log and one of All: Order returns that of All, and a
// batch that of the log.
func TestBrokenAndTooMuch(t *testing.T) {
	b := begin(t, api.MaxRoom)
	much := puts(keys(8), xs(api.MaxValue))
	b.must(t, opens(0), batch(much...), batch(puts(keys(16)[8:], xs(api.MaxValue))...), fuse(0))
	for range 2 {
		if e := b.do(t, batch()); e != api.ErrOff {
			t.Error(e)
		}
		b.fails(t, order(), api.ErrLong)
	}
}

// P7.3: Get, Range, Table and Size tell what the table and the log do.
func TestTells(t *testing.T) {
	b := begin(t, 10000)
	b.must(t, opens(1000), batch(put("a", "1"), put("ab", ""), put("b", "2"), put("\xff", "3")))
	s := b.store
	for _, c := range []struct {
		from, to string
		most     int
		want     []api.Pair
	}{
		{"", "", 9, b.twin.has.pairs()},
		{"", "", 4, b.twin.has.pairs()},
		{"", "", 3, b.twin.has.pairs()[:3]},
		{"", "", 0, nil},
		{"", "", -1, nil},
		{"", "", math.MinInt, nil},
		{"", "", math.MaxInt, b.twin.has.pairs()},
		{"a", "b", 9, []api.Pair{put("a", "1"), put("ab", "")}},
		{"a", "b", 1, []api.Pair{put("a", "1")}},
		{"a\x00", "b\x00", 9, []api.Pair{put("ab", ""), put("b", "2")}},
		{"b", "", 9, []api.Pair{put("b", "2"), put("\xff", "3")}},
		{"b", "a", 9, nil},
		{"b", "b", 9, nil},
		{"\xff\x00", "", 9, nil},
	} {
		if got := s.Range(c.from, c.to, c.most); !slices.Equal(got, c.want) {
			t.Errorf("Range(%q, %q, %d): %v, not %v", c.from, c.to, c.most, got, c.want)
		}
	}
	if v, ok := s.Get("ab"); v != "" || !ok {
		t.Errorf("%q, %t", v, ok)
	}
	for _, k := range []string{"", "c", "abc", xs(api.MaxKey + 1)} {
		if v, ok := s.Get(k); v != "" || ok {
			t.Errorf("Get(%q): %q, %t", k, v, ok)
		}
	}
	if size, _, _ := b.tree.Stat(logPath); s.Size() != size {
		t.Errorf("%d bytes, not %d", s.Size(), size)
	}
}

// Rule 3: nothing that is passed or returned is kept, or changed later.
func TestKeepsNothing(t *testing.T) {
	memory := []byte("db/logkeyvalue")
	text := func(from, to int) string { return unsafe.String(&memory[from], to-from) }
	f := newTree(t, 1000)
	s, e := store.Open(f, text(0, 6), 1000)
	l := []api.Pair{put(text(6, 9), text(9, 14)), gone("b"), put("b", "2"), put("unused", "3")}
	if e != api.OK || s.Batch(l[:3]) != api.OK {
		t.Fatal(e)
	}
	copy(memory, "xx/xxxXXXXXXXX")
	clear(l)
	want := model{"key": "value", "b": "2"}
	contains(t, s, want)
	was := s.Table()
	clear(s.Range("", "", 2))
	contains(t, s, want)
	if s.Batch([]api.Pair{gone("key"), put("c", "3")}) != api.OK || s.Order() != api.OK {
		t.Fatal("it is broken")
	}
	is(t, was, want)
	yields(t, f, model{"b": "2", "c": "3"})
}

// Rule 3: a batch is passed with spare capacity, of which nothing is changed.
func TestBatchChangesNothing(t *testing.T) {
	s, _ := store.Open(newTree(t, 1000), logPath, 0)
	l := []api.Pair{put("b", "1"), put("a", "2"), put("b", "3"), gone("0"), put("", "")}
	before := slices.Clone(l)
	if e := s.Batch(l[:4]); e != api.OK || !slices.Equal(l, before) {
		t.Errorf("%d; %v after %v", e, l, before)
	}
	contains(t, s, model{"a": "2", "b": "3"})
}

// P7.2: two stores in a tree have nothing in common.
func TestTwoStores(t *testing.T) {
	f := newTree(t, 1000)
	a, _ := store.Open(f, "a", 0)
	b, _ := store.Open(f, "b", 1000)
	for i := range 20 {
		if a.Batch([]api.Pair{put("k", xs(i))}) != api.OK || b.Batch([]api.Pair{put(keys(20)[i], "b")}) != api.OK {
			t.Fatal(i)
		}
	}
	contains(t, a, model{"k": xs(19)})
	contains(t, b, model{}.after(puts(keys(20), "b")...))
}

// P7.2, P7.3: calls by chance, held against the twin one by one.
func TestCallsByChance(t *testing.T) {
	met := map[string]int{}
	for seed := range 300 {
		random := rand.New(rand.NewSource(int64(seed)))
		b := begin(t, 60+random.Intn(400))
		b.do(t, opens(random.Intn(100)))
		for range 60 {
			var l []api.Pair
			for range random.Intn(4) {
				l = append(l, api.Pair{Key: string(rune('a' + random.Intn(5))), Value: xs(random.Intn(6)), Gone: random.Intn(3) == 0})
			}
			c := batch(l...)
			switch random.Intn(20) {
			case 0:
				c = order()
			case 1:
				c = opens(random.Intn(100))
			case 2:
				c = fuse(random.Intn(12))
			case 3:
				c = crash(random.Intn(4), random.Intn(30), random.Intn(30))
			case 4:
				c = batch(append(l, gone(""))...)
			}
			before := b.store.Size()
			e := b.do(t, c)
			switch {
			case e != api.OK:
				met[c.kind+" "+map[api.Errno]string{1: "nil", 2: "arg", 10: "full", 11: "off"}[e]]++
			case c.kind == "batch" && b.store.Size() < before:
				met["compacted"]++
			default:
				met[c.kind]++
			}
		}
	}
	for _, what := range []string{"batch", "order", "open", "compacted", "batch arg", "batch full", "batch off", "batch nil", "order full", "order off", "open off"} {
		if met[what] < 20 {
			t.Errorf("%s: %v", what, met)
		}
	}
}
