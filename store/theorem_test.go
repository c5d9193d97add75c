package store_test

import (
	"fmt"
	"maps"
	"math/rand"
	"slices"
	"testing"

	"packtrain/api"
	"packtrain/store"
	"packtrain/tree"
)

// witness is what was seen of a store: what it contains after the last call that
// returned OK, and after the one that was interrupted.
type witness struct {
	has, next model
}

// allows tells whether P7.4 allows that a store contains this after a crash.
func (w witness) allows(has model) bool {
	return maps.Equal(has, w.has) || maps.Equal(has, w.next)
}

// live makes calls up to the first one that a fuse interrupts. What has no room
// is not done, and breaks the store, until it is opened again.
func (w witness) live(t *testing.T, f *tree.Tree, s *store.Store, calls []call) witness {
	t.Helper()
	for _, c := range calls {
		w.next = w.has
		if c.kind == "batch" {
			w.next = w.has.after(c.batch...)
		}
		switch e := c.onStore(f, &s); {
		case e == api.ErrOff:
			return w
		case e == api.OK:
			w.has = w.next
		case e != api.ErrFull:
			t.Fatalf("%v: %d", c, e)
		}
		contains(t, s, w.has)
	}
	w.next = w.has
	return w
}

// life is calls in a tree with that room, at each of whose operations a crash is
// tried.
type life struct {
	room  int
	calls []call
}

// lives are some by hand, and some by chance.
func lives() []life {
	one, two := batch(put("a", "1"), put("b", "2")), batch(gone("a"), put("c", "3"), put("c", "4"))
	all := []life{
		{1000, []call{opens(1000), one, two, order(), batch(), one, order(), order()}},
		// Some of these compact the store before.
		{1000, []call{opens(0), one, two, one, two, batch(gone("b")), one}},
		{1000, []call{opens(0), one, opens(1000), two, opens(0), one, order(), opens(0), two}},
		// There is room for the log twice, but not for one of the batches.
		{200, []call{opens(1000), one, two, batch(put("a", xs(200))), order(), opens(1000), batch(put("d", "5")), batch(put("a", xs(200))), opens(0), one}},
	}
	for seed := range 3 {
		random := rand.New(rand.NewSource(int64(seed)))
		calls := []call{opens(30 * seed)}
		for i := range 10 {
			p, q := put(fmt.Sprint(i%3), fmt.Sprint(i)), gone(fmt.Sprint(i%2))
			calls = append(calls, []call{batch(p), batch(p, q), batch(q), batch(q, p), order()}[random.Intn(5)])
		}
		all = append(all, life{1000, calls})
	}
	return all
}

// aCrash is a crash at an operation of a life, and what it keeps.
type aCrash struct {
	life
	fuse, keep, part int
}

// tree is a tree after the crash, with what was seen before, and whether the life
// was interrupted.
func (c aCrash) tree(t *testing.T) (*tree.Tree, witness, bool) {
	t.Helper()
	f := newTree(t, c.room)
	f.Fuse(c.fuse)
	w := witness{has: model{}}.live(t, f, nil, c.calls)
	interrupted := !f.On()
	f.Crash(c.keep, slices.Repeat([]int{c.part}, 4))
	return f, w, interrupted
}

// everyCrash are crashes at each operation of each life, for each number of
// changes of paths that one may keep, and those of bytes that are given.
func everyCrash(t *testing.T, parts ...int) (all []aCrash) {
	t.Helper()
	for _, l := range lives() {
		for n, more := 0, true; more; n++ {
			_, _, more = aCrash{l, n, 0, 0}.tree(t)
			for keep := range 5 {
				for _, part := range parts {
					all = append(all, aCrash{l, n, keep, part})
				}
			}
		}
	}
	return all
}

// opened is what Open yields of a tree that crashed, and the store.
func opened(t *testing.T, f *tree.Tree) (*store.Store, model) {
	t.Helper()
	s, e := store.Open(f, logPath, 40)
	if e != api.OK {
		t.Fatalf("Open: %d", e)
	}
	return s, model{}.after(s.Range("", "", 1000)...)
}

// P7.4: after a crash at each operation Open yields what the theorem says, and
// opened again the store has the same; so it has after a crash that keeps
// nothing, and a batch that is done afterwards is there, too.
func TestCrashAtEveryOperation(t *testing.T) {
	met := map[string]int{}
	// None, a part of a length and of a piece, and all bytes of the frames that
	// the batches have, of which these are parts of others.
	for _, c := range everyCrash(t, 0, 3, 7, 10, 13, 15, 18, 20) {
		f, w, interrupted := c.tree(t)
		_, has := opened(t, f)
		if !w.allows(has) {
			t.Fatalf("%+v: %v after %+v", c, has, w)
		}
		met["crashes"]++
		switch {
		case interrupted && maps.Equal(w.has, w.next):
			met["in what changes nothing"]++
		case interrupted && maps.Equal(has, w.next):
			met["in a batch that is done"]++
		case interrupted:
			met["in a batch that is not"]++
		}
		yields(t, f, has)
		f.Crash(0, nil)
		s := yields(t, f, has)
		if s.Order() != api.OK || s.Batch([]api.Pair{put("z", "")}) != api.OK {
			t.Fatalf("%+v: it is broken", c)
		}
		f.Crash(0, nil)
		yields(t, f, has.after(put("z", "")))
	}
	for _, what := range []string{"in what changes nothing", "in a batch that is done", "in a batch that is not"} {
		if met[what] < 100 {
			t.Errorf("%s: %v", what, met)
		}
	}
}

// P7.4: a crash during the Open after a crash changes nothing.
func TestCrashDuringOpen(t *testing.T) {
	interrupted := 0
	for _, c := range everyCrash(t, 0, 9, 21) {
		f, _, _ := c.tree(t)
		_, want := opened(t, f)
		for n, off := 0, true; off; n++ {
			for keep := range 4 {
				f, _, _ := c.tree(t)
				f.Fuse(n)
				s, e := store.Open(f, logPath, 0)
				off = !f.On()
				if off != (e == api.ErrOff) || off != (s == nil) {
					t.Fatalf("%+v: %d", c, e)
				}
				f.Crash(keep, []int{c.part, 3})
				yields(t, f, want)
			}
			if off && n > 0 {
				interrupted++
			}
		}
	}
	if interrupted < 100 {
		t.Errorf("only %d replacements were interrupted", interrupted)
	}
}

// P7.4: a life with many crashes, by chance.
func TestManyCrashes(t *testing.T) {
	for seed := range 400 {
		random := rand.New(rand.NewSource(int64(seed)))
		f := newTree(t, 10000)
		s, has := opened(t, f)
		for i := range 20 {
			var calls []call
			for j := range random.Intn(8) {
				p := put(fmt.Sprint(random.Intn(4)), fmt.Sprint(i, j))
				calls = append(calls, []call{batch(p), batch(p, gone("1")), batch(gone("2"), p), order()}[random.Intn(4)])
			}
			f.Fuse(random.Intn(20))
			w := witness{has: has}.live(t, f, s, calls)
			f.Crash(random.Intn(5), []int{random.Intn(30), random.Intn(30)})
			if s, has = opened(t, f); !w.allows(has) {
				t.Fatalf("seed %d: %v after %+v", seed, has, w)
			}
		}
	}
}
