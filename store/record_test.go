package store_test

import (
	"math/rand"
	"slices"
	"testing"

	"packtrain/api"
	"packtrain/store"
	"packtrain/table"
)

// checkRecord checks Record against what is expected.
func checkRecord(t *testing.T, what string, l []api.Pair, want string, wantE api.Errno) {
	t.Helper()
	if s, e := store.Record(l); s != want || e != wantE {
		t.Errorf("%s: %.100q (%d bytes), %d, not %.100q (%d bytes), %d", what, s, len(s), e, want, len(want), wantE)
	}
}

// checkAll checks All of a table likewise.
func checkAll(t *testing.T, what string, m model, want string, wantE api.Errno) {
	t.Helper()
	if s, e := store.All(table.Of(m.pairs())); s != want || e != wantE {
		t.Errorf("%s: %.100q (%d bytes), %d, not %.100q (%d bytes), %d", what, s, len(s), e, want, len(want), wantE)
	}
}

// P7.1: records, byte by byte.
func TestRecordByHand(t *testing.T) {
	for _, c := range []struct {
		l    []api.Pair
		want string
	}{
		{nil, "\x01\x00"},
		{[]api.Pair{}, "\x01\x00"},
		{[]api.Pair{put("a", "1"), put("b", "2")}, "\x01\x02\x01\x01a\x011\x01\x01b\x012"},
		{[]api.Pair{gone("a"), put("c", "3"), put("c", "4")}, "\x01\x02\x00\x01a\x01\x01c\x014"},
		{[]api.Pair{put("b", ""), gone("ab"), put("a", "\x00\xff")}, "\x01\x03\x01\x01a\x02\x00\xff\x00\x02ab\x01\x01b\x00"},
		{[]api.Pair{put("a", "1"), gone("a")}, "\x01\x01\x00\x01a"},
		{[]api.Pair{gone("a"), put("a", "1")}, "\x01\x01\x01\x01a\x011"},
		{[]api.Pair{put("a", "1"), put("b", "2"), put("a", "3"), gone("b"), put("a", "4")}, "\x01\x02\x01\x01a\x014\x00\x01b"},
		{[]api.Pair{{Key: "a", Value: "ignored", Gone: true}}, "\x01\x01\x00\x01a"},
		{[]api.Pair{put("a", xs(128))}, "\x01\x01\x01\x01a\x81\x00" + xs(128)},
	} {
		checkRecord(t, "by hand", c.l, c.want, api.OK)
	}
}

// P7.1: records of everything, byte by byte.
func TestAllByHand(t *testing.T) {
	checkAll(t, "nothing", model{}, "\x02\x00", api.OK)
	checkAll(t, "two", model{"b": "2", "a": "1"}, "\x02\x02\x01a\x011\x01b\x012", api.OK)
	checkAll(t, "bytes", model{"\xff": "", "a\x00": "\x00", "a": xs(128)}, "\x02\x03\x01a\x81\x00"+xs(128)+"\x02a\x00\x01\x00\x01\xff\x00", api.OK)
}

// P7.1: batches and tables by chance: the last pair of each key counts, and keys
// are ascending, byte by byte.
func TestRecordsByChance(t *testing.T) {
	random := rand.New(rand.NewSource(1))
	names := []string{"a", "aa", "a\x00", "b", "\x00", "\xff", "é", "ab", "A", xs(200), xs(512)}
	for range 20000 {
		var l []api.Pair
		m := model{}
		for range random.Intn(20) {
			p := put(names[random.Intn(1+random.Intn(len(names)))], xs(random.Intn(4)))
			if random.Intn(3) == 0 {
				p.Gone = true
			}
			l = append(l, p)
			m = m.after(p)
		}
		want, _ := recorded(l)
		checkRecord(t, "by chance", l, want, api.OK)
		checkAll(t, "by chance", m, m.all(), api.OK)
	}
}

// full are so many pairs of MaxValue bytes and one more, with which the record
// has so many bytes; that of everything has one less for each pair.
func full(pairs, size int) []api.Pair {
	l := puts(keys(pairs), xs(api.MaxValue))
	// The length of a value of so many bytes has two bytes more than that of none.
	return append(l, put("z", xs(size-len(recordOf(append(l, put("z", ""))...))-2)))
}

// P7.1: the bounds of a batch.
func TestBoundsOfBatch(t *testing.T) {
	many := puts(keys(api.MaxBatch+1), "")
	long, longest := put("k", xs(api.MaxValue)), put("k", xs(api.MaxValue+1))
	for _, c := range []struct {
		what string
		l    []api.Pair
		want api.Errno
	}{
		{"MaxBatch pairs", many[:api.MaxBatch], api.OK},
		{"more", many, api.ErrLong},
		{"MaxBatch pairs of one key", slices.Repeat([]api.Pair{put("a", "1")}, api.MaxBatch), api.OK},
		{"more", slices.Repeat([]api.Pair{put("a", "1")}, api.MaxBatch+1), api.ErrLong},
		{"more that are removed", slices.Repeat([]api.Pair{gone("a")}, api.MaxBatch+1), api.ErrLong},
		{"a key of one byte", []api.Pair{put("\x00", "")}, api.OK},
		{"a key of MaxKey bytes", []api.Pair{put(xs(api.MaxKey), "v"), gone(xs(api.MaxKey - 1))}, api.OK},
		{"more", []api.Pair{put(xs(api.MaxKey+1), "v")}, api.ErrLong},
		{"a removed key of MaxKey bytes", []api.Pair{gone(xs(api.MaxKey))}, api.OK},
		{"more", []api.Pair{put("a", "b"), gone(xs(api.MaxKey + 1)), put("c", "d")}, api.ErrLong},
		{"a value of MaxValue bytes", []api.Pair{long}, api.OK},
		{"more", []api.Pair{put("a", ""), longest}, api.ErrLong},
		{"more, which does not count in the end", []api.Pair{longest, put("k", "v")}, api.ErrLong},
		{"more, which is removed in the end", []api.Pair{longest, gone("k")}, api.ErrLong},
		{"more beside a key that is removed", []api.Pair{{Key: "k", Value: longest.Value, Gone: true}}, api.OK},
		{"a record of MaxPiece bytes", full(15, api.MaxPiece), api.OK},
		{"more", full(15, api.MaxPiece+1), api.ErrLong},
		{"much more", puts(keys(100), xs(api.MaxValue)), api.ErrLong},
		{"much more of which little counts", slices.Repeat([]api.Pair{long}, 100), api.OK},
	} {
		want, wantE := recorded(c.l)
		if wantE != c.want {
			t.Fatalf("%s: the chapter says %d", c.what, wantE)
		}
		checkRecord(t, c.what, c.l, want, c.want)
	}
}

// P7.1: an empty key counts before all that is too much, wherever it is.
func TestEmptyKeyOfBatch(t *testing.T) {
	for _, empty := range []api.Pair{put("", ""), put("", "v"), gone("")} {
		checkRecord(t, "alone", []api.Pair{empty}, "", api.ErrArg)
		for _, l := range [][]api.Pair{
			{put("a", "1")},
			{put("a", "1"), empty},
			{put(xs(api.MaxKey+1), "")},
			{put("a", xs(api.MaxValue+1))},
			puts(keys(api.MaxBatch+1), ""),
			puts(keys(100), xs(api.MaxValue)),
		} {
			for _, at := range []int{0, 1, len(l)} {
				checkRecord(t, "beside others", slices.Insert(slices.Clone(l), at, empty), "", api.ErrArg)
			}
		}
	}
}

// P7.1: the bounds of everything, of which MaxBatch is none.
func TestBoundsOfAll(t *testing.T) {
	exact := model{}.after(full(15, api.MaxPiece+16)...)
	if n := len(exact.all()); n != api.MaxPiece {
		t.Fatalf("%d bytes", n)
	}
	for _, c := range []struct {
		what string
		m    model
		want api.Errno
	}{
		{"more than MaxBatch pairs", model{}.after(puts(keys(9999), "v")...), api.OK},
		{"a key of MaxKey bytes", model{xs(api.MaxKey): "v"}, api.OK},
		{"more", model{"a": "v", xs(api.MaxKey + 1): "v", "z": "v"}, api.ErrLong},
		{"a value of MaxValue bytes", model{"a": xs(api.MaxValue)}, api.OK},
		{"more", model{"a": "v", "b": xs(api.MaxValue + 1), "z": "v"}, api.ErrLong},
		{"MaxPiece bytes", exact, api.OK},
		{"more", exact.after(put("z", exact["z"]+"x")), api.ErrLong},
		{"a key more", exact.after(put("zz", "")), api.ErrLong},
		{"an empty key", model{"": "v"}, api.ErrArg},
		{"an empty key without a value", model{"": "", "a": ""}, api.ErrArg},
		{"an empty key with a long value", model{"": xs(api.MaxValue + 1)}, api.ErrArg},
		{"an empty key and a long one", model{"": "v", xs(api.MaxKey + 1): "v"}, api.ErrArg},
		{"an empty key and a long value", model{"": "v", "a": xs(api.MaxValue + 1)}, api.ErrArg},
		{"an empty key and more than MaxPiece", exact.after(put("", ""), put("zz", "")), api.ErrArg},
	} {
		want, wantE := c.m.recordedAll()
		if wantE != c.want {
			t.Fatalf("%s: the chapter says %d", c.what, wantE)
		}
		checkAll(t, c.what, c.m, want, c.want)
	}
}

// Rule 3: what is passed is not changed, nor what is in its spare capacity.
func TestRecordChangesNothing(t *testing.T) {
	l := []api.Pair{put("b", "1"), gone("a"), put("b", "2"), put("a", "3"), put("0", "4"), put("b", "5")}
	before := slices.Clone(l)
	checkRecord(t, "a part", l[:4], recordOf(l[:4]...), api.OK)
	if !slices.Equal(l, before) {
		t.Errorf("%v after %v", l, before)
	}
}

// checkTell checks Tell of tables by what the chapter says of a record.
func checkTell(t *testing.T, s string) (ok bool) {
	t.Helper()
	for _, m := range []model{{}, {"a": "1", "b": "2", "z": "3"}} {
		var want model
		before := table.Of(m.pairs())
		got, e := store.Tell(before, s)
		if want, ok = m.told(s); ok != (e == api.OK) || !ok && (e != api.ErrBad || got != table.Table{}) {
			t.Fatalf("Tell of %.200q: %d", s, e)
		}
		if ok {
			is(t, got, want)
		}
		is(t, before, m)
	}
	return ok
}

// P7.1: what Record and All make is done.
func TestTellOfRecords(t *testing.T) {
	random := rand.New(rand.NewSource(2))
	for range 5000 {
		var l []api.Pair
		for range random.Intn(10) {
			l = append(l, api.Pair{Key: string(rune('a' + random.Intn(26))), Value: xs(random.Intn(3)), Gone: random.Intn(2) == 0})
		}
		s, _ := store.Record(l)
		all, _ := store.All(table.Of(l))
		if !checkTell(t, s) || !checkTell(t, all) {
			t.Fatalf("%v: %q and %q are no records", l, s, all)
		}
	}
	for _, s := range []string{
		recordOf(puts(keys(api.MaxBatch), "")...),
		recordOf(full(15, api.MaxPiece)...),
		recordOf(put(xs(api.MaxKey), xs(api.MaxValue))),
		model{}.after(puts(keys(9999), "v")...).all(),
		model{}.after(full(15, api.MaxPiece+16)...).all(),
		model{xs(api.MaxKey): xs(api.MaxValue)}.all(),
	} {
		if !checkTell(t, s) {
			t.Errorf("%.100q (%d bytes) is no record", s, len(s))
		}
	}
}

// P7.1: what neither Record nor All makes is rejected.
func TestTellRejects(t *testing.T) {
	one := number(1) + piece("a") + piece("v")
	for what, s := range map[string]string{
		"nothing":                      "",
		"another number":               "\x00\x00",
		"a number above":               "\x03\x00",
		"no list":                      "\x01",
		"no list of everything":        "\x02",
		"a number in two bytes":        "\x80\x01\x00",
		"a list in two bytes":          "\x01\x80\x00",
		"a pair in two bytes":          "\x01\x01\x80\x01" + one[1:],
		"a key in two bytes":           "\x01\x01\x01\x80\x01a\x01v",
		"bytes that are left":          "\x01\x00\x00",
		"bytes after everything":       "\x02\x00\x00",
		"a pair that is left":          "\x01\x01" + one + one,
		"a pair that is not there":     "\x01\x02" + one,
		"many that are not there":      "\x01\xff\x7f" + one,
		"very many":                    "\x02\x81\xff\xff\xff\xff\xff\xff\xff\xff\x7f" + one,
		"a pair that ends":             "\x01\x01" + one[:len(one)-1],
		"a pair without a value":       "\x01\x01\x01\x01a",
		"a value of a removed key":     "\x01\x01\x00\x01a\x00",
		"a pair of another number":     "\x01\x01\x02\x01a\x01v",
		"a pair of a great number":     "\x01\x01\x82\x80\x01\x01a\x01v",
		"an empty key":                 "\x01\x01\x01\x00\x01v",
		"an empty key that is removed": "\x01\x01\x00\x00",
		"an empty key in everything":   "\x02\x01\x00\x01v",
		"the same key again":           "\x01\x02" + one + one,
		"the same key, removed":        "\x01\x02" + one + "\x00\x01a",
		"the same in everything":       "\x02\x02" + one[1:] + one[1:],
		"keys that descend":            "\x01\x02\x01\x01b\x01v" + one,
		"and in everything":            "\x02\x02\x01b\x01v" + one[1:],
		"pairs of a batch in all":      "\x02\x01" + one,
		"pairs of all in a batch":      "\x01\x01" + one[1:],
		"too many pairs":               recordOf(puts(keys(api.MaxBatch+1), "")...),
		"too long a key":               recordOf(put(xs(api.MaxKey+1), "")),
		"too long a removed key":       recordOf(gone(xs(api.MaxKey + 1))),
		"too long a value":             recordOf(put("a", xs(api.MaxValue+1))),
		"too much":                     recordOf(full(15, api.MaxPiece+1)...),
		"too long a key in all":        model{xs(api.MaxKey + 1): ""}.all(),
		"too long a value in all":      model{"a": xs(api.MaxValue + 1)}.all(),
		"too much in all":              model{}.after(full(15, api.MaxPiece+17)...).all(),
		"a piece that is too long":     "\x01\x01\x01\xff\xff\x7f" + xs(1<<21),
	} {
		if checkTell(t, s) {
			t.Errorf("%s is rejected by nobody", what)
		}
	}
}

// P7.1: records of which bytes are changed, taken away or put in.
func TestTellOfChangedRecords(t *testing.T) {
	random := rand.New(rand.NewSource(3))
	met := map[bool]int{}
	for range 60000 {
		l := []api.Pair{}
		for range random.Intn(4) {
			l = append(l, api.Pair{Key: string(rune('a' + random.Intn(4))), Value: xs(random.Intn(2)), Gone: random.Intn(3) == 0})
		}
		s := recordOf(l...)
		if random.Intn(2) == 0 {
			s = model{}.after(l...).all()
		}
		b := []byte(s)
		for range random.Intn(3) {
			switch at := random.Intn(len(b)); random.Intn(3) {
			case 0:
				b[at] = []byte{0, 1, 2, 3, 'a', 'b', 128, 129, 255}[random.Intn(9)]
			case 1:
				b = slices.Insert(b, at, byte(random.Intn(3)))
			case 2:
				b = slices.Delete(b, at, at+1)
			}
		}
		met[checkTell(t, string(b)) && string(b) != s]++
		if t.Failed() {
			return
		}
	}
	if met[true] < 1000 || met[false] < 1000 {
		t.Errorf("other records, and no records: %v", met)
	}
}

// T6: no other bytes than the record of everything tell a table from nothing:
// of all that are short the ones that are no record are rejected.
func TestTellOfShort(t *testing.T) {
	met := 0
	var longer func(s string)
	longer = func(s string) {
		if got, e := store.Tell(table.Table{}, s); e == api.OK {
			met++
			if again, e := store.All(got); s[0] == 2 && (e != api.OK || again != s) {
				t.Fatalf("%q is also %q", s, again)
			}
		}
		checkTell(t, s)
		if len(s) < 7 {
			for _, c := range "\x00\x01\x02ab" {
				longer(s + string(c))
			}
		}
	}
	longer("")
	if met < 20 {
		t.Errorf("only %d are records", met)
	}
}
