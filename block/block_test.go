package block_test

import (
	"bytes"
	"math"
	"math/rand"
	"slices"
	"testing"

	"packtrain/api"
	"packtrain/block"
)

// The chapter's examples.
func TestExamples(t *testing.T) {
	l, e := block.Cut([]byte("abcde"), 2)
	if e != api.OK || l.Size != 2 || l.Length != 5 || len(l.Digests) != 3 {
		t.Fatal(l, e)
	}
	if from, to, ok := block.At(l, 2); from != 4 || to != 5 || !ok {
		t.Error(from, to, ok)
	}
	p, e := block.Plan(l, []api.List{list([]byte("cd"), 2), list(nil, 2)})
	if e != api.OK || !slices.Equal(p, []api.Source{{File: -1}, {File: 0, Block: 0}, {File: -1}}) {
		t.Error(p, e)
	}
	for b, want := range map[string]api.Errno{"e": api.OK, "f": api.ErrSum, "ef": api.ErrSum} {
		if e := block.Fits(l, 2, []byte(b)); e != want {
			t.Errorf("Fits of %q: %d", b, e)
		}
	}
}

// P9.1: Check of lists with all edges of each field.
func TestCheck(t *testing.T) {
	met := map[api.Errno]int{}
	for _, size := range edges() {
		for _, length := range edges() {
			for _, n := range []int{0, 1, 2, 3, 4, 5, 16, 63, 64, 65, 1023, 1024, 1025, 4000} {
				l := blank(size, length, n)
				e := block.Check(l)
				met[e]++
				if want := checked(l); e != want {
					t.Errorf("Check of %d bytes by %d with %d digests: %d, not %d", length, size, n, e, want)
				}
			}
		}
	}
	if len(met) != 3 || met[api.OK] < 50 {
		t.Errorf("what was met is %v", met)
	}
}

// P9.1: Check of lists by hand, among them those that are wrong in more than one
// way.
func TestCheckByHand(t *testing.T) {
	for _, l := range []api.List{
		blank(1, 0, 0), blank(maxBlock, 0, 0), {Size: 3}, {Size: 3, Digests: []api.Digest{}}, blank(1, 1, 1), blank(1, 1024, 1024),
		blank(2, 3, 2), blank(2, 4, 2), blank(2, 5, 3), blank(4096, maxFile, 1024), blank(maxBlock, maxFile, 64), blank(maxBlock, maxFile-1, 64),
		blank(maxBlock, maxFile-maxBlock, 63), blank(maxBlock, maxFile-maxBlock+1, 64), blank(maxBlock, 1, 1),
	} {
		if e := block.Check(l); e != api.OK {
			t.Errorf("Check of %d bytes by %d with %d digests: %d", l.Length, l.Size, len(l.Digests), e)
		}
	}
	for _, want := range []api.Errno{api.ErrArg, api.ErrLong} {
		for _, l := range invalid(want) {
			if e := block.Check(l); e != want {
				t.Errorf("Check of %d bytes by %d with %d digests: %d", l.Length, l.Size, len(l.Digests), e)
			}
		}
	}
}

// cuts checks that Cut returns the list of b.
func cuts(t *testing.T, b []byte, size int) {
	t.Helper()
	l, e := block.Cut(b, size)
	if e != api.OK || !equal(l, list(b, size)) {
		t.Errorf("Cut of %d bytes by %d: %d bytes by %d, %d digests, %d", len(b), size, l.Length, l.Size, len(l.Digests), e)
	}
}

// P9.1: Cut of short byte strings by all sizes up to above their length.
func TestCut(t *testing.T) {
	cuts(t, nil, 1)
	cuts(t, []byte{}, maxBlock)
	for n := range 40 {
		for size := 1; size <= n+2; size++ {
			cuts(t, some(int64(n), n), size)
			cuts(t, make([]byte, n), size)
		}
		cuts(t, some(1, n), maxBlock)
	}
	random := rand.New(rand.NewSource(1))
	for range 300 {
		b := some(2, random.Intn(3000))
		cuts(t, b, 3+random.Intn(len(b)+1))
	}
}

// P9.1: Cut at the limits: of the size, then of the bytes and of the blocks.
func TestCutLimits(t *testing.T) {
	most := some(3, maxFile+1)
	for _, c := range []struct {
		n, size int
		want    api.Errno
	}{
		{1024, 1, api.OK}, {1025, 1, api.ErrLong}, {2048, 2, api.OK}, {2049, 2, api.ErrLong}, {2047, 2, api.OK}, {maxFile, 1, api.ErrLong},
		{1024 * 4095, 4095, api.OK}, {1024*4095 + 1, 4095, api.ErrLong}, {maxFile, 4095, api.ErrLong}, {maxFile, 4096, api.OK}, {maxFile - 1, 4096, api.OK},
		{maxFile + 1, 4096, api.ErrLong}, {maxFile + 1, 4097, api.ErrLong}, {maxFile, 4097, api.OK}, {maxFile, maxBlock, api.OK}, {maxFile + 1, maxBlock, api.ErrLong},
		{maxFile - 1, maxBlock - 1, api.OK}, {maxBlock, maxBlock, api.OK}, {maxBlock + 1, maxBlock, api.OK}, {maxBlock - 1, maxBlock, api.OK},
		{0, 0, api.ErrArg}, {0, -1, api.ErrArg}, {0, maxBlock + 1, api.ErrArg}, {5, 0, api.ErrArg}, {5, math.MinInt, api.ErrArg}, {5, math.MaxInt, api.ErrArg},
		{5, -5, api.ErrArg}, {5, 1 << 32, api.ErrArg}, {5, 1<<32 + 1, api.ErrArg}, {maxFile + 1, 0, api.ErrArg}, {maxFile + 1, -1, api.ErrArg}, {maxFile + 1, maxBlock + 1, api.ErrArg},
	} {
		l, e := block.Cut(most[:c.n], c.size)
		if e != c.want || e != api.OK && !isZero(l) {
			t.Errorf("Cut of %d bytes by %d: %d bytes, %d", c.n, c.size, l.Length, e)
		}
		if e == api.OK && !equal(l, list(most[:c.n], c.size)) {
			t.Errorf("Cut of %d bytes by %d is another list", c.n, c.size)
		}
	}
}

// P9.1: At, of each block and of numbers that are none.
func TestAt(t *testing.T) {
	for _, l := range []api.List{
		blank(1, 0, 0), blank(2, 1, 1), blank(2, 2, 1), blank(2, 3, 2), blank(7, 20, 3), blank(7, 21, 3), blank(1, 1024, 1024),
		blank(4096, maxFile, 1024), blank(maxBlock, maxFile, 64), blank(maxBlock, maxFile-1, 64), blank(maxBlock, 1, 1),
	} {
		sizes, _ := bytesOf(l)
		end := 0
		for n, size := range sizes {
			if from, to, ok := block.At(l, n); from != end || to != end+size || !ok {
				t.Errorf("block %d of %d bytes by %d: %d, %d, %v", n, l.Length, l.Size, from, to, ok)
			}
			end += size
		}
		if end != l.Length {
			t.Errorf("the blocks end at %d, not %d", end, l.Length)
		}
		for _, n := range append(edges(), len(sizes), len(sizes)+1, l.Length) {
			if n >= 0 && n < len(sizes) {
				continue
			}
			if from, to, ok := block.At(l, n); from != 0 || to != 0 || ok {
				t.Errorf("block %d of %d bytes by %d: %d, %d, %v", n, l.Length, l.Size, from, to, ok)
			}
		}
	}
}

// P9.1 and P9.2: what is told of lists that are not valid.
func TestInvalid(t *testing.T) {
	good := list([]byte("abcde"), 2)
	for _, want := range []api.Errno{api.ErrArg, api.ErrLong} {
		for _, l := range invalid(want) {
			for _, n := range append(edges(), 62, 64) {
				if from, to, ok := block.At(l, n); from != 0 || to != 0 || ok {
					t.Errorf("At of %d: %d, %d, %v", n, from, to, ok)
				}
				for _, b := range [][]byte{nil, {1}, {1, 2}} {
					if e := block.Fits(l, n, b); e != want {
						t.Errorf("Fits of block %d: %d, not %d", n, e, want)
					}
				}
			}
			if block.Whole(l, nil) || block.Whole(l, []byte("a")) || block.Whole(l, make([]byte, max(0, min(l.Length, maxFile+1)))) {
				t.Error("a list that is not valid is that of bytes")
			}
			for _, parts := range [][][]byte{nil, {}, {nil}, {{1}}, make([][]byte, len(l.Digests))} {
				if b, e := block.Put(l, parts); e != want || len(b) > 0 {
					t.Errorf("Put: %d, not %d", e, want)
				}
			}
			for _, have := range [][]api.List{nil, {good}, {good, l}, {{}}} {
				if p, e := block.Plan(l, have); e != want || len(p) > 0 {
					t.Errorf("Plan: %d, not %d", e, want)
				}
			}
		}
	}
}

// P9.1: the digests may be those of the bytes, and the list not valid for it.
func TestNotWholeIfInvalid(t *testing.T) {
	l := list([]byte("abcd"), 2)
	for _, size := range []int{0, -1, 3, 1, maxBlock + 1} {
		bad := clone(l)
		bad.Size = size
		if block.Whole(bad, []byte("abcd")) || block.Fits(bad, 0, []byte("ab")) != api.ErrArg && size != 3 {
			t.Errorf("by %d, abcd is whole", size)
		}
	}
	long := list(make([]byte, 2048), 2)
	for _, n := range []int{1025, 3000} {
		bad := list(make([]byte, n), 1)
		if e := block.Fits(bad, 0, []byte{0}); e != api.ErrLong || block.Whole(bad, make([]byte, n)) {
			t.Errorf("%d blocks: %d", n, e)
		}
	}
	if !block.Whole(long, make([]byte, 2048)) {
		t.Error("1024 blocks are not whole")
	}
}

// fits checks what Fits returns.
func fits(t *testing.T, l api.List, n int, b []byte, want api.Errno) {
	t.Helper()
	if e := block.Fits(l, n, b); e != want {
		t.Errorf("Fits of %d bytes as block %d of %d bytes by %d: %d, not %d", len(b), n, l.Length, l.Size, e, want)
	}
}

// P9.1: Fits of each block, and of such as are a little else.
func TestFits(t *testing.T) {
	for _, c := range []struct{ n, size int }{{1, 1}, {5, 1}, {5, 2}, {6, 2}, {6, 7}, {100, 33}, {99, 33}, {maxBlock + 1, maxBlock}} {
		b := some(4, c.n)
		l, parts := list(b, c.size), split(b, c.size)
		for n, part := range parts {
			fits(t, l, n, part, api.OK)
			fits(t, l, n, part[:len(part)-1], api.ErrSum)
			fits(t, l, n, part[1:], api.ErrSum)
			fits(t, l, n, nil, api.ErrSum)
			fits(t, l, n, append(bytes.Clone(part), 0), api.ErrSum)
			for _, at := range []int{0, len(part) / 2, len(part) - 1} {
				fits(t, l, n, changed(part, at), api.ErrSum)
			}
			for other := range parts {
				if !bytes.Equal(parts[other], part) {
					fits(t, l, other, part, api.ErrSum)
				}
			}
			for _, none := range []int{len(parts), -1, len(parts) + 1, -len(parts), math.MinInt, math.MaxInt, 1 << 32} {
				fits(t, l, none, part, api.ErrNone)
			}
		}
	}
	fits(t, list(nil, 4), 0, nil, api.ErrNone)
	fits(t, list([]byte("abcd"), 4), 1, nil, api.ErrNone)
}

// P9.1: bytes have the digest of a block, but another length, and the other way
// round.
func TestFitsOfBoth(t *testing.T) {
	digest := list([]byte("abc"), 3).Digests[0]
	for length := 1; length <= 8; length++ {
		l := api.List{Size: 4, Length: length, Digests: slices.Repeat([]api.Digest{digest}, (length+3)/4)}
		for n := range l.Digests {
			want := api.ErrSum
			if length == 4*n+3 {
				want = api.OK
			}
			fits(t, l, n, []byte("abc"), want)
			fits(t, l, n, []byte("abd"), api.ErrSum)
		}
	}
	for i := range 32 {
		for bit := range 8 {
			l := list([]byte("abc"), 3)
			l.Digests[0][i] ^= 1 << bit
			fits(t, l, 0, []byte("abc"), api.ErrSum)
		}
	}
}

// P9.1: Whole, of the bytes of a list, and of others.
func TestWhole(t *testing.T) {
	for n := range 12 {
		for size := 1; size < 14; size++ {
			b := some(5, n)
			l := list(b, size)
			if !block.Whole(l, b) || !block.Whole(clone(l), append([]byte(nil), b...)) {
				t.Errorf("%d bytes by %d are not whole", n, size)
			}
			for at := range b {
				if block.Whole(l, changed(b, at)) || block.Whole(l, b[:at]) {
					t.Errorf("%d bytes by %d are whole with another byte %d", n, size, at)
				}
			}
			if block.Whole(l, append(bytes.Clone(b), 0)) {
				t.Errorf("%d bytes by %d are whole with one more", n, size)
			}
		}
	}
	// The blocks are the same, but the list says another size or length of them.
	for _, l := range []api.List{{Size: 3, Length: 2}, {Size: 2, Length: 1}, {Size: maxBlock, Length: 3}, {Size: 4, Length: 4}} {
		l.Digests = list([]byte("ab"), 2).Digests
		if want := l.Length == 2; block.Whole(l, []byte("ab")) != want {
			t.Errorf("ab is whole as %d bytes by %d: %v", l.Length, l.Size, !want)
		}
	}
	if block.Whole(list([]byte("abab"), 2), []byte("ab")) || block.Whole(list([]byte("abcd"), 2), []byte("cdab")) {
		t.Error("other blocks are whole")
	}
	if b := some(6, maxFile); !block.Whole(list(b, 4096), b) || block.Whole(list(b, 4096), changed(b, maxFile-1)) || block.Whole(list(b, 4096), append(b, 0)) {
		t.Error("as many bytes as there may be")
	}
}

// P9.2: Put, with all parts, and with such as are wrong.
func TestPut(t *testing.T) {
	for _, c := range []struct{ n, size int }{{0, 1}, {0, maxBlock}, {1, 1}, {5, 1}, {5, 2}, {6, 2}, {6, 7}, {100, 33}, {maxBlock + 1, maxBlock}} {
		b := some(7, c.n)
		l := list(b, c.size)
		puts := func(want api.Errno, parts ...[]byte) {
			t.Helper()
			got, e := block.Put(l, parts)
			if e != want || e == api.OK && !bytes.Equal(got, b) || e != api.OK && len(got) > 0 {
				t.Errorf("Put of %d parts of %d bytes by %d: %d bytes, %d", len(parts), c.n, c.size, len(got), e)
			}
		}
		parts := split(b, c.size)
		puts(api.OK, parts...)
		puts(api.ErrNone, append(slices.Clone(parts), nil)...)
		puts(api.ErrNone, append(slices.Clone(parts), []byte("x"))...)
		puts(api.ErrNone, append([][]byte{nil}, parts...)...)
		for n := range parts {
			puts(api.ErrNone, parts[:n]...)
			puts(api.ErrNone, slices.Delete(slices.Clone(parts), n, n+1)...)
			for _, bad := range [][]byte{nil, parts[n][1:], changed(parts[n], 0), append(bytes.Clone(parts[n]), 0)} {
				wrong := slices.Clone(parts)
				wrong[n] = bad
				puts(api.ErrSum, wrong...)
				puts(api.ErrNone, append(wrong, nil)...)
			}
		}
	}
	if b, e := block.Put(list([]byte("abcd"), 2), [][]byte{[]byte("cd"), []byte("ab")}); e != api.ErrSum || len(b) > 0 {
		t.Error(b, e)
	}
	// As many bytes, split elsewhere.
	if b, e := block.Put(list([]byte("abcd"), 2), [][]byte{[]byte("abc"), []byte("d")}); e != api.ErrSum || len(b) > 0 {
		t.Error(b, e)
	}
}

// P9.2: Same, for each field.
func TestSame(t *testing.T) {
	l := append(invalid(api.ErrArg), invalid(api.ErrLong)...)
	l = append(l, list([]byte("abcde"), 2), list([]byte("abcdf"), 2), list([]byte("bbcde"), 2), list([]byte("abcde"), 3), list([]byte("abcd"), 2), list(nil, 2), list(nil, 3))
	two := list([]byte("abcd"), 2)
	two.Digests[0], two.Digests[1] = two.Digests[1], two.Digests[0]
	l = append(l, two, api.List{Size: 4, Length: 4, Digests: two.Digests}, api.List{Size: 2, Length: 3, Digests: two.Digests}, api.List{Size: 2, Length: 4, Digests: two.Digests[:1]})
	for i := range 32 {
		other := clone(two)
		other.Digests[1][i] ^= 128
		l = append(l, other)
	}
	for _, a := range l {
		for _, b := range l {
			if got := block.Same(a, clone(b)); got != equal(a, b) {
				t.Errorf("Same of %v and %v: %v", a, b, got)
			}
		}
	}
	if !block.Same(api.List{Size: 2}, api.List{Size: 2, Digests: []api.Digest{}}) || !block.Same(api.List{Digests: []api.Digest{}}, api.List{}) {
		t.Error("nil and empty digests are not the same")
	}
}

// Rule 3: nothing that was passed is changed, read later or returned, nor its
// spare capacity.
func TestNewMemory(t *testing.T) {
	digest := api.Digest{9}
	for n := range 9 {
		for size := 1; size < 5; size++ {
			before := some(8, n)
			b := roomy(before, 77)
			want := list(before, size)
			l := cut(t, b, size)
			untouched(t, "Cut", b, before, 77)
			spoil(b, 5)
			if !equal(l, want) {
				t.Error("Cut after its argument changed")
			}
			l.Digests = roomy(want.Digests, digest)
			parts := split(before, size)
			for i := range parts {
				parts[i] = roomy(parts[i], 77)
			}
			parts = roomy(parts, []byte{88})
			got, e := block.Put(l, parts)
			again, _ := block.Put(l, parts)
			block.Check(l)
			block.Whole(l, before)
			for i, part := range split(before, size) {
				block.Fits(l, i, parts[i])
				block.At(l, i)
				untouched(t, "a part of Put", parts[i], part, 77)
				spoil(parts[i], 5)
			}
			if e != api.OK || !bytes.Equal(got, before) {
				t.Error("Put after its argument changed")
			}
			spoil(got, 6)
			for _, part := range parts {
				if bytes.IndexByte(part[:cap(part)], 6) >= 0 {
					t.Error("Put returned an argument")
				}
			}
			if !bytes.Equal(again, before) || !slices.Equal(parts[:len(parts)+1][len(parts)], []byte{88}) {
				t.Error("two results share memory, or spare capacity was changed")
			}
			untouched(t, "Put", l.Digests, want.Digests, digest)
			block.Same(l, want)
			spoil(cut(t, before, size).Digests, digest)
			if !equal(cut(t, before, size), want) {
				t.Error("Cut after its result changed")
			}
		}
	}
}
