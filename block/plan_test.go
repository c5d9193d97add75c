package block_test

import (
	"math"
	"math/rand"
	"slices"
	"testing"

	"packtrain/api"
	"packtrain/block"
)

// plans checks that Plan returns what places does.
func plans(t *testing.T, l api.List, have ...api.List) []api.Source {
	t.Helper()
	got, e := block.Plan(l, have)
	if want := places(l, have); e != api.OK || !slices.Equal(got, want) {
		t.Errorf("Plan: %v, not %v, %d", got, want, e)
	}
	return got
}

// of is the list of a text.
func of(s string, size int) api.List {
	return list([]byte(s), size)
}

// P9.2: plans by hand: the first file counts, and its first block.
func TestPlan(t *testing.T) {
	for _, c := range []struct {
		l    api.List
		have []api.List
		want [][2]int // the file and the block of each source
	}{
		{of("", 2), nil, nil},
		{of("", 2), []api.List{of("ab", 2)}, nil},
		{of("ab", 2), nil, [][2]int{{-1, 0}}},
		{of("ab", 2), []api.List{of("", 1), of("", 2)}, [][2]int{{-1, 0}}},
		{of("ab", 2), []api.List{of("", 2), of("ab", 2), of("ab", 2)}, [][2]int{{1, 0}}},
		{of("ab", 2), []api.List{of("cdabab", 2), of("ab", 2)}, [][2]int{{0, 1}}},
		{of("abab", 2), []api.List{of("cd", 2), of("cdababcd", 2)}, [][2]int{{1, 1}, {1, 1}}},
		{of("abcda", 2), []api.List{of("cda", 2), of("ab", 2), of("a", 1)}, [][2]int{{1, 0}, {0, 0}, {0, 1}}},
		{of("abc", 2), []api.List{of("c", 1), of("ab", 3), of("abc", 3)}, [][2]int{{1, 0}, {0, 0}}},
		{of("aaa", 1), []api.List{of("baa", 1)}, [][2]int{{0, 1}, {0, 1}, {0, 1}}},
		{of("ba", 1), []api.List{of("ab", 1)}, [][2]int{{0, 1}, {0, 0}}},
	} {
		var got [][2]int
		for _, s := range plans(t, c.l, c.have...) {
			got = append(got, [2]int{s.File, s.Block})
		}
		if !slices.Equal(got, c.want) {
			t.Errorf("Plan: %v, not %v", got, c.want)
		}
	}
	l := list(some(1, maxBlocks), 1)
	plans(t, l, list(some(2, maxBlocks), 1), list(some(3, maxBlocks), 1))
	plans(t, l, l)
	long := list(some(4, maxFile), 4096)
	plans(t, long, list(some(5, maxFile), 4096), long)
}

// P9.2: plans of files with few kinds of bytes, by sizes of their own.
func TestPlanByChance(t *testing.T) {
	random := rand.New(rand.NewSource(2))
	none, met, later := 0, 0, 0
	for range 3000 {
		l := list(few(random, 9), 1+random.Intn(3))
		var have []api.List
		for range random.Intn(5) {
			have = append(have, list(few(random, 12), 1+random.Intn(3)))
		}
		for _, s := range plans(t, l, have...) {
			switch {
			case s.File < 0:
				none++
			case s.File > 0 && s.Block > 0:
				later++
			default:
				met++
			}
		}
	}
	if none < 500 || met < 500 || later < 500 {
		t.Errorf("no source %d times, the first file or block %d times, others %d times", none, met, later)
	}
}

// P9.2: blocks of which lists say that they have the same digest, but another
// length, are other ones.
func TestPlanByLength(t *testing.T) {
	d := api.Digest{1, 2, 3}
	one := func(length int) api.List {
		return api.List{Size: maxBlock, Length: length, Digests: []api.Digest{d}}
	}
	lengths := []int{1, 2, 255, 256, 257, 258, 511, 512, 513, 1023, 1024, 4096, 32768, 65279, 65280, 65281, 65534, 65535, 65536}
	var have []api.List
	for _, length := range lengths {
		have = append(have, one(length))
	}
	for i, length := range lengths {
		if p := plans(t, one(length), have...); p[0].File != i {
			t.Errorf("%d bytes: %v", length, p)
		}
		if p := plans(t, one(length), slices.Delete(slices.Clone(have), i, i+1)...); p[0] != (api.Source{File: -1}) {
			t.Errorf("%d bytes, which no file has: %v", length, p)
		}
	}
	// All blocks have the same digest, and the last ones are shorter or not.
	for length := 1; length <= 12; length++ {
		for other := 1; other <= 12; other++ {
			l := api.List{Size: 4, Length: length, Digests: slices.Repeat([]api.Digest{d}, (length+3)/4)}
			for size := 1; size <= 5; size++ {
				h := api.List{Size: size, Length: other, Digests: slices.Repeat([]api.Digest{d}, (other+size-1)/size)}
				plans(t, l, h)
				plans(t, l, h, l)
			}
		}
	}
	// Of two digests, the whole one counts.
	for i := range 32 {
		l, h := one(5), one(5)
		h.Digests = []api.Digest{d}
		h.Digests[0][i]++
		if p := plans(t, l, h); p[0].File != -1 {
			t.Errorf("a digest that differs in byte %d: %v", i, p)
		}
	}
}

// P9.2: the errors of Plan: those of the list, then those of the files, of which
// the first one counts.
func TestPlanErrors(t *testing.T) {
	good := of("abcde", 2)
	for _, bad := range invalid(api.ErrArg) {
		for _, long := range invalid(api.ErrLong) {
			for _, c := range []struct {
				l    api.List
				have []api.List
				want api.Errno
			}{
				{good, []api.List{bad}, api.ErrArg}, {good, []api.List{long}, api.ErrLong},
				{good, []api.List{good, bad}, api.ErrArg}, {good, []api.List{good, long}, api.ErrLong}, {good, []api.List{bad, good}, api.ErrArg},
				{good, []api.List{bad, long}, api.ErrArg}, {good, []api.List{long, bad}, api.ErrLong}, {good, []api.List{good, long, good, bad}, api.ErrLong},
				{bad, []api.List{long}, api.ErrArg}, {long, []api.List{bad}, api.ErrLong}, {of("", 1), []api.List{bad}, api.ErrArg},
			} {
				if p, e := block.Plan(c.l, c.have); e != c.want || len(p) > 0 {
					t.Errorf("Plan: %v, %d, not %d", p, e, c.want)
				}
			}
		}
	}
}

// wants checks that Wanted returns what wanted does.
func wants(t *testing.T, p []api.Source, l api.List) {
	t.Helper()
	if got := block.Wanted(p, l); !slices.Equal(got, wanted(p, l)) {
		t.Errorf("Wanted of %v: %v, not %v", p, got, wanted(p, l))
	}
}

// P9.2: Wanted, each digest once, where it is first.
func TestWanted(t *testing.T) {
	l := of("abcdabefcde", 2) // ab cd ab ef cd e
	for _, c := range []struct {
		files []int
		want  []int // blocks of l
	}{
		{[]int{0, 0, 0, 0, 0, 0}, nil},
		{[]int{-1, -1, -1, -1, -1, -1}, []int{0, 1, 3, 5}},
		{[]int{-1, 0, -1, 3, 1, 2}, []int{0}},
		{[]int{0, 0, -1, 0, 0, 0}, []int{2}},
		{[]int{0, 7, -1, 0, -1, -1}, []int{0, 1, 5}},
		{[]int{5, 5, 5, 5, -1, 5}, []int{4}},
		{[]int{-2, -1, math.MinInt, -3, -1, math.MaxInt}, []int{1}},
	} {
		var p []api.Source
		for i, file := range c.files {
			p = append(p, api.Source{File: file, Block: i - 1})
		}
		var want []api.Digest
		for _, n := range c.want {
			want = append(want, l.Digests[n])
		}
		if got := block.Wanted(p, l); !slices.Equal(got, want) {
			t.Errorf("Wanted of %v: %v", c.files, got)
		}
		wants(t, p, l)
		for n := range p {
			if got := block.Wanted(p[:n], l); len(got) > 0 {
				t.Errorf("Wanted of %d sources: %v", n, got)
			}
		}
		if got := block.Wanted(append(p, api.Source{File: -1}), l); len(got) > 0 {
			t.Errorf("Wanted of one source more: %v", got)
		}
	}
	if got := append(block.Wanted(nil, of("", 2)), block.Wanted(nil, api.List{})...); len(got) > 0 {
		t.Error(got)
	}
	if got := block.Wanted([]api.Source{{File: -1}}, of("", 2)); len(got) > 0 {
		t.Error(got)
	}
}

// P9.2: Wanted asks nothing of the list but its digests, so that it need not be
// valid.
func TestWantedOfInvalid(t *testing.T) {
	for _, l := range append(invalid(api.ErrArg), invalid(api.ErrLong)...) {
		p := make([]api.Source, len(l.Digests))
		for n := range p {
			p[n].File = -(n % 2)
		}
		wants(t, p, l)
		wants(t, nil, l)
		wants(t, append(p, api.Source{File: -1}), l)
	}
	random := rand.New(rand.NewSource(3))
	for range 2000 {
		l := list(few(random, 12), 1+random.Intn(3))
		p := make([]api.Source, len(l.Digests))
		for n := range p {
			p[n] = api.Source{File: random.Intn(4) - 2, Block: random.Intn(3) - 1}
		}
		wants(t, p, l)
	}
}

// Rule 3, for plans.
func TestNewMemoryOfPlan(t *testing.T) {
	digest, source := api.Digest{9}, api.Source{File: 99, Block: 9}
	plain, file := of("abcdabef", 2), of("cdgh", 2)
	l, h := clone(plain), clone(file)
	l.Digests, h.Digests = roomy(l.Digests, digest), roomy(h.Digests, digest)
	have := roomy([]api.List{h}, of("ab", 2))
	want := places(plain, []api.List{file})
	p := plans(t, l, have...)
	again := plans(t, l, have...)
	untouched(t, "Plan", l.Digests, plain.Digests, digest)
	untouched(t, "Plan", h.Digests, file.Digests, digest)
	if !block.Same(have[:2][1], of("ab", 2)) || !block.Same(have[0], file) {
		t.Error("the files of Plan were changed")
	}
	rest := roomy(p, source)
	first, second := block.Wanted(rest, l), block.Wanted(rest, l)
	untouched(t, "Wanted", rest, want, source)
	untouched(t, "Wanted", l.Digests, plain.Digests, digest)
	spoil(p, source)
	spoil(l.Digests, digest)
	spoil(h.Digests, digest)
	if !slices.Equal(again, want) || !slices.Equal(first, wanted(want, plain)) {
		t.Error("a result changed with an argument, or with another result")
	}
	spoil(first, api.Digest{8})
	if !slices.Equal(second, wanted(want, plain)) || slices.Contains(l.Digests, api.Digest{8}) {
		t.Error("a result changed with another result, or was an argument")
	}
}
