package wal_test

import (
	"fmt"
	"math/rand"
	"slices"
	"strings"
	"testing"

	"packtrain/api"
	"packtrain/tree"
	"packtrain/wal"
)

// witness is what was seen of a log, from which follows what a crash may leave.
type witness struct {
	base    []string // of the last Aside that returned, or of Open after a crash
	after   []string // what was appended to it
	synced  int      // how many of these were synced
	isAside bool     // an Aside was interrupted
	aside   []string // of that one
}

// all are the records if nothing is lost.
func (w witness) all() []string {
	return w.records(len(w.after))
}

// records are those of which n were appended.
func (w witness) records(n int) []string {
	return slices.Concat(w.base, w.after[:n])
}

// allows tells whether P5.4 allows that a log has these records after a crash.
func (w witness) allows(s []string) bool {
	for n := w.synced; n <= len(w.after); n++ {
		if slices.Equal(s, w.records(n)) {
			return true
		}
	}
	return w.isAside && slices.Equal(s, w.aside)
}

// live makes calls up to the first one that a fuse interrupts, and returns what
// was seen. What has no room is not done, and breaks the log, until it is
// opened again.
func (w witness) live(t *testing.T, f *tree.Tree, l *wal.Log, calls []call) witness {
	t.Helper()
	for _, c := range calls {
		s, e := c.onLog(f, &l)
		switch {
		case e == api.ErrOff:
			w.isAside, w.aside = c.kind == "aside", c.records
			return w
		case e == api.ErrFull:
		case e != api.OK:
			t.Fatalf("%v: %d", c, e)
		case c.kind == "open" && !slices.Equal(s, w.all()):
			t.Fatalf("Open: %q, not %q", s, w.all())
		case c.kind == "append":
			w.after = append(slices.Clone(w.after), c.records[0])
		case c.kind == "sync":
			w.synced = len(w.after)
		case c.kind == "aside":
			w = witness{base: c.records}
		}
	}
	return w
}

// life is calls in a tree with that room, at each of whose operations a crash
// is tried.
type life struct {
	room  int
	calls []call
}

// lives are some by hand, and some by chance.
func lives() []life {
	temp := func(b []byte) []call {
		return []call{byHand(mk(tempPath)), byHand(add(tempPath, b)), byHand(syncs(tempPath))}
	}
	much := strings.Repeat("x", 100)
	all := []life{
		{1000, []call{opens(), appends("a"), appends("b"), syncsLog(), appends("c"), appends(""), appends("def"), aside("x"), appends("y"), appends("z")}},
		{1000, []call{opens(), appends("a"), aside(), appends("b"), aside("b", "c"), aside("d"), syncsLog(), appends("e"), syncsLog()}},
		{1000, []call{opens(), aside("a", "b", "c", "d"), opens(), appends("e"), opens(), appends("f"), syncsLog(), opens(), aside("g"), opens()}},
		{1000, slices.Concat(temp(framed("a")), []call{opens(), appends("b"), syncsLog()}, temp(framed("c")), []call{appends("d"), aside("e", "f")},
			temp(nil), []call{appends("g"), opens(), syncsLog(), aside("h")})},
		{110, []call{opens(), appends("a"), appends("b"), syncsLog(), appends("c"), aside(much), opens(), appends("d"), appends(much), opens(),
			syncsLog(), appends("e"), aside("f")}},
	}
	for seed := range 4 {
		random, calls := rand.New(rand.NewSource(int64(seed))), []call{opens()}
		for i := range 14 {
			p := fmt.Sprint(i)
			calls = append(calls, []call{appends(p), appends(p + p), syncsLog(), aside(p, p), aside("more", p)}[random.Intn(5)])
		}
		all = append(all, life{1000, calls})
	}
	return all
}

// aCrash is a crash at an operation of a life, and what it keeps.
type aCrash struct {
	life
	fuse, keep, part int
}

// tree is a tree after the crash, with what was seen before, and whether the
// life was interrupted.
func (c aCrash) tree(t *testing.T) (*tree.Tree, witness, bool) {
	t.Helper()
	f := newTree(t, c.room)
	f.Fuse(c.fuse)
	w := witness{}.live(t, f, nil, c.calls)
	interrupted := !f.On()
	f.Crash(c.keep, slices.Repeat([]int{c.part}, 4))
	return f, w, interrupted
}

// everyCrash are crashes at each operation of each life, for each number of
// changes of paths that one may keep, and those of bytes that are given.
func everyCrash(t *testing.T, parts ...int) (all []aCrash) {
	t.Helper()
	for _, l := range lives() {
		for n, more := 0, true; more; n++ {
			_, _, more = aCrash{l, n, 0, 0}.tree(t)
			for keep := range 5 {
				for _, part := range parts {
					all = append(all, aCrash{l, n, keep, part})
				}
			}
		}
	}
	return all
}

// P5.4: after a crash at each operation Open yields what the theorem says, and
// opened again the log has the same; so it has after a crash that keeps
// nothing, and what is synced afterwards is there, too.
func TestCrashAtEveryOperation(t *testing.T) {
	met := map[string]int{}
	// None, a part of a length, of a piece or of a checksum, a frame, and more.
	for _, c := range everyCrash(t, 0, 1, 4, 8, 9, 10, 14, 18, 19, 1000) {
		f, w, _ := c.tree(t)
		b, _ := f.Read(logPath)
		_, s, e := wal.Open(f, logPath)
		if e != api.OK || !w.allows(s) {
			t.Fatalf("%+v: %q (%d), after %+v", c, s, e, w)
		}
		met["crashes"]++
		switch _, whole, _ := scanned(b); {
		case whole < len(b):
			met["a torn log"]++
		case w.isAside && slices.Equal(s, w.aside):
			met["an Aside that is done"]++
		case w.isAside:
			met["an Aside that is not"]++
		case len(s) == len(w.records(w.synced)) && w.synced < len(w.after):
			met["only what was synced"]++
		case len(s) == len(w.all()) && w.synced < len(w.after):
			met["more than was synced"]++
		}
		yields(t, f, s...)
		f.Crash(0, nil)
		l := yields(t, f, s...)
		if l.Append("more") != api.OK || l.Sync() != api.OK || l.Append("and more") != api.OK {
			t.Fatal("it is broken")
		}
		f.Crash(0, nil)
		yields(t, f, append(s, "more")...)
	}
	for _, what := range []string{"a torn log", "an Aside that is done", "an Aside that is not", "only what was synced", "more than was synced"} {
		if met[what] < 100 {
			t.Errorf("%s: %v", what, met)
		}
	}
}

// P5.4: a crash during the Open after a crash changes nothing.
func TestCrashDuringOpen(t *testing.T) {
	interrupted := 0
	for _, c := range everyCrash(t, 0, 4, 10) {
		f, _, _ := c.tree(t)
		_, want, _ := wal.Open(f, logPath)
		for n, off := 0, true; off; n++ {
			for keep := range 5 {
				f, _, _ := c.tree(t)
				f.Fuse(n)
				_, s, e := wal.Open(f, logPath)
				off = !f.On()
				if off && e != api.ErrOff || !off && (e != api.OK || !slices.Equal(s, want)) {
					t.Fatalf("%+v: %q (%d), not %q", c, s, e, want)
				}
				f.Crash(keep, []int{c.part, 3})
				yields(t, f, want...)
			}
			if off && n > 0 {
				interrupted++
			}
		}
	}
	if interrupted < 100 {
		t.Errorf("only %d replacements were interrupted", interrupted)
	}
}

// P5.4: a life with many crashes, by chance.
func TestManyCrashes(t *testing.T) {
	for seed := range 400 {
		random := rand.New(rand.NewSource(int64(seed)))
		f := newTree(t, 10000)
		l, w := yields(t, f), witness{}
		for i := range 20 {
			var calls []call
			for j := range random.Intn(8) {
				p := fmt.Sprint(i, j)
				calls = append(calls, []call{appends(p), appends(p), syncsLog(), aside(slices.Concat(w.base, []string{p})...)}[random.Intn(4)])
			}
			f.Fuse(random.Intn(20))
			w = w.live(t, f, l, calls)
			f.Crash(random.Intn(5), []int{random.Intn(30), random.Intn(30)})
			var s []string
			var e api.Errno
			if l, s, e = wal.Open(f, logPath); e != api.OK || !w.allows(s) {
				t.Fatalf("seed %d: %q (%d) after %+v", seed, s, e, w)
			}
			w = witness{base: s}
		}
	}
}
