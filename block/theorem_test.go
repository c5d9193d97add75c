package block_test

import (
	"bytes"
	"math/rand"
	"testing"

	"packtrain/api"
	"packtrain/block"
)

// files are some byte strings.
func files() [][]byte {
	random := rand.New(rand.NewSource(4))
	l := [][]byte{nil, {0}, []byte("abcde"), make([]byte, 100), some(1, 1000)}
	for range 200 {
		l = append(l, few(random, 20))
	}
	return l
}

// slice is block n of b, as At says.
func slice(t *testing.T, b []byte, l api.List, n int) []byte {
	t.Helper()
	from, to, ok := block.At(l, n)
	if !ok {
		t.Fatalf("there is no block %d", n)
	}
	return b[from:to]
}

// P9.3: Whole holds for the result of Cut, and Put of its blocks is the bytes.
func TestCutIsWhole(t *testing.T) {
	for _, b := range files() {
		for size := 1; size < 25; size++ {
			l := cut(t, b, size)
			if block.Check(l) != api.OK || !block.Whole(l, b) {
				t.Errorf("%d bytes by %d are not whole", len(b), size)
			}
			var parts [][]byte
			for n := range l.Digests {
				parts = append(parts, slice(t, b, l, n))
				fits(t, l, n, parts[n], api.OK)
			}
			if got, e := block.Put(l, parts); e != api.OK || !bytes.Equal(got, b) {
				t.Errorf("Put of %d bytes by %d: %v, %d", len(b), size, got, e)
			}
		}
	}
	b := some(2, maxFile)
	for _, size := range []int{4096, 5000, maxBlock} {
		if !block.Whole(cut(t, b, size), b) {
			t.Errorf("as many bytes as there may be, by %d, are not whole", size)
		}
	}
}

// P9.3: if a plan has a source for each block, the blocks of these, one after the
// other, are the file; otherwise they are, with those that are wanted.
func TestPlanMakesTheFile(t *testing.T) {
	random := rand.New(rand.NewSource(5))
	all := files()
	complete := 0
	for range 5000 {
		b := all[random.Intn(len(all))]
		l := cut(t, b, 1+random.Intn(3))
		var others [][]byte
		var have []api.List
		for range random.Intn(6) {
			others = append(others, all[random.Intn(len(all))])
			have = append(have, cut(t, others[len(others)-1], l.Size))
		}
		p, e := block.Plan(l, have)
		if e != api.OK || len(p) != len(l.Digests) {
			t.Fatal(p, e)
		}
		var parts [][]byte
		for n, s := range p {
			if s.File < 0 {
				parts = append(parts, slice(t, b, l, n))
			} else {
				parts = append(parts, slice(t, others[s.File], have[s.File], s.Block))
			}
		}
		if len(block.Wanted(p, l)) == 0 && len(p) > 0 {
			complete++
		}
		if got, e := block.Put(l, parts); e != api.OK || !bytes.Equal(got, b) {
			t.Errorf("the sources of %d bytes: %v, %d", len(b), got, e)
		}
	}
	if complete < 500 {
		t.Errorf("%d plans were complete", complete)
	}
}

// T6: whatever is passed, all calls return, and two times the same.
func TestArbitraryArguments(t *testing.T) {
	random := rand.New(rand.NewSource(6))
	all := edges()
	number := func() int { return all[random.Intn(len(all))] }
	anything := func() api.List { return blank(number(), number(), random.Intn(4)) }
	for range 20000 {
		a, b, n, part := anything(), anything(), number(), some(7, random.Intn(5))
		if e := block.Check(a); e != block.Check(clone(a)) || e != checked(a) {
			t.Errorf("Check: %d", e)
		}
		block.At(a, n)
		block.Cut(part, n)
		block.Fits(a, n, part)
		block.Whole(a, part)
		block.Put(a, [][]byte{part, nil}[:random.Intn(3)])
		block.Same(a, b)
		p, e := block.Plan(a, []api.List{b, b}[:random.Intn(3)])
		if (e == api.OK) != (len(p) == len(a.Digests)) && len(a.Digests) > 0 {
			t.Errorf("Plan: %v, %d", p, e)
		}
		block.Wanted(make([]api.Source, random.Intn(4)), a)
	}
}
