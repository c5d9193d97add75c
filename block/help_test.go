package block_test

import (
	"bytes"
	"crypto/sha256"
	"math"
	"math/rand"
	"slices"
	"testing"

	"packtrain/api"
	"packtrain/block"
)

// The limits, as the chapter says them.
const (
	maxBlock  = 65536
	maxBlocks = 1024
	maxFile   = 4194304
)

// edges are numbers at which something changes, and such as are far away.
func edges() []int {
	return []int{
		math.MinInt, math.MinInt + 1, -1 << 32, -maxFile, -2, -1, 0, 1, 2, 3, 4, 5, 1023, 1024, 1025, 4095, 4096, 4097,
		maxBlock - 1, maxBlock, maxBlock + 1, maxFile - 1, maxFile, maxFile + 1, 1 << 32, 1<<32 + 1, math.MaxInt - 1, math.MaxInt,
	}
}

// some are n bytes, the same ones for the same seed.
func some(seed int64, n int) []byte {
	b := make([]byte, n)
	rand.New(rand.NewSource(seed)).Read(b)
	return b
}

// few is up to n bytes of few kinds, so that equal blocks are often met.
func few(random *rand.Rand, n int) []byte {
	b := make([]byte, random.Intn(n+1))
	for i := range b {
		b[i] = "abc"[random.Intn(3)]
	}
	return b
}

// split is the blocks of b, byte by byte.
func split(b []byte, size int) [][]byte {
	var parts [][]byte
	for i, c := range b {
		if i%size == 0 {
			parts = append(parts, nil)
		}
		last := len(parts) - 1
		parts[last] = append(parts[last], c)
	}
	return parts
}

// list is the list of b, with the digests of the library.
func list(b []byte, size int) api.List {
	l := api.List{Size: size, Length: len(b)}
	for _, part := range split(b, size) {
		l.Digests = append(l.Digests, sha256.Sum256(part))
	}
	return l
}

// digests are n different ones.
func digests(n int) []api.Digest {
	var l []api.Digest
	for i := range n {
		l = append(l, api.Digest{byte(i), byte(i >> 8), 7})
	}
	return l
}

// blank is a list with this many digests of nothing in particular.
func blank(size, length, n int) api.List {
	return api.List{Size: size, Length: length, Digests: digests(n)}
}

// bytesOf is how many bytes each block has, by taking one block after the other
// away; ok is false if this ends with another number of blocks than it has.
func bytesOf(l api.List) (sizes []int, ok bool) {
	rest := l.Length
	for range l.Digests {
		if rest <= 0 {
			return nil, false
		}
		sizes = append(sizes, min(rest, l.Size))
		rest -= l.Size
	}
	return sizes, rest <= 0
}

// checked is what Check returns.
func checked(l api.List) api.Errno {
	if l.Length > maxFile || len(l.Digests) > maxBlocks {
		return 3
	}
	if l.Size < 1 || l.Size > maxBlock || l.Length < 0 {
		return 2
	}
	if _, ok := bytesOf(l); !ok {
		return 2
	}
	return 0
}

// invalid are lists of which Check has the error.
func invalid(e api.Errno) []api.List {
	if e == 3 {
		return []api.List{
			blank(maxBlock, maxFile+1, 65), blank(maxBlock, maxFile+1, 64), blank(1, math.MaxInt, 1), blank(0, maxFile+1, 0),
			blank(1, 1025, 1025), blank(2, 2, 1025), blank(-1, -1, 1025), blank(4096, maxFile+1, 1025), {Length: math.MaxInt},
		}
	}
	return []api.List{
		{}, blank(0, 0, 0), blank(-1, 0, 0), blank(maxBlock+1, 0, 0), blank(maxBlock+1, 5, 1), blank(0, 1, 1), blank(-1, 1, 1),
		blank(math.MinInt, 1, 1), blank(math.MaxInt, 1, 1), blank(1, -1, 0), blank(2, -1, 1), blank(2, math.MinInt, 0), blank(2, -3, 1),
		blank(2, 0, 1), blank(2, 1, 0), blank(2, 1, 2), blank(2, 2, 2), blank(2, 3, 1), blank(2, 3, 3), blank(2, 4, 3), blank(2, 5, 2),
		blank(1, 1025, 1024), blank(1, maxFile, 1024), blank(4095, maxFile, 1024), blank(maxBlock, maxFile, 63), blank(maxBlock, maxFile, 65),
	}
}

// places is what Plan returns, each block searched in all files.
func places(l api.List, have []api.List) []api.Source {
	var p []api.Source
	mine, _ := bytesOf(l)
next:
	for n := range l.Digests {
		for file, other := range have {
			theirs, _ := bytesOf(other)
			for i := range other.Digests {
				if mine[n] == theirs[i] && l.Digests[n] == other.Digests[i] {
					p = append(p, api.Source{File: file, Block: i})
					continue next
				}
			}
		}
		p = append(p, api.Source{File: -1})
	}
	return p
}

// wanted is what Wanted returns.
func wanted(p []api.Source, l api.List) []api.Digest {
	var all []api.Digest
	if len(p) != len(l.Digests) {
		return nil
	}
	for n := range p {
		if p[n].File == -1 && !slices.Contains(all, l.Digests[n]) {
			all = append(all, l.Digests[n])
		}
	}
	return all
}

// equal tells whether two lists are the same; nil and empty digests are, too.
func equal(a, b api.List) bool {
	return a.Size == b.Size && a.Length == b.Length && slices.Equal(a.Digests, b.Digests)
}

// isZero tells whether a list has nothing.
func isZero(l api.List) bool {
	return l.Size == 0 && l.Length == 0 && len(l.Digests) == 0
}

// cut is the result of Cut, where it is OK.
func cut(t *testing.T, b []byte, size int) api.List {
	t.Helper()
	l, e := block.Cut(b, size)
	if e != api.OK {
		t.Fatalf("Cut of %d bytes by %d: %d", len(b), size, e)
	}
	return l
}

// roomy is b with spare capacity that no function may touch.
func roomy[T any](b []T, spare T) []T {
	room := append(slices.Clip(slices.Clone(b)), spare, spare, spare)
	return room[:len(b)]
}

// untouched checks that b, which roomy returned, is what it was.
func untouched[T comparable](t *testing.T, what string, b, before []T, spare T) {
	t.Helper()
	if !slices.Equal(b, before) {
		t.Errorf("%s: an argument was changed", what)
	}
	if !slices.Equal(b[len(b):cap(b)][:3], []T{spare, spare, spare}) {
		t.Errorf("%s: the spare capacity of an argument was changed", what)
	}
}

// spoil changes all of b, and what its spare capacity has.
func spoil[T any](b []T, with T) {
	b = b[:cap(b)]
	for i := range b {
		b[i] = with
	}
}

// clone is a copy of a list.
func clone(l api.List) api.List {
	l.Digests = slices.Clone(l.Digests)
	return l
}

// changed is b with one byte changed.
func changed(b []byte, at int) []byte {
	b = bytes.Clone(b)
	b[at]++
	return b
}
