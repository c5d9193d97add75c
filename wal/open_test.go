package wal_test

import (
	"slices"
	"strings"
	"testing"
	"unsafe"

	"packtrain/api"
	"packtrain/tree"
	"packtrain/wal"
)

// refuses checks that Open returns an error alone, and does nothing.
func refuses(t *testing.T, f *tree.Tree, p string, want api.Errno) {
	t.Helper()
	before := look(f)
	if l, s, e := wal.Open(f, p); l != nil || s != nil || e != want {
		t.Errorf("Open of %q: %v, %q, %d, not %d", p, l, s, e, want)
	}
	if after := look(f); after != before {
		t.Errorf("Open of %q: the tree is %s after %s", p, after, before)
	}
}

// P5.2: no tree, or an invalid one, which counts before a wrong path.
func TestOpenWithoutTree(t *testing.T) {
	for _, f := range []*tree.Tree{nil, {}} {
		for _, p := range []string{logPath, "", "A", strings.Repeat("a", 100)} {
			refuses(t, f, p, api.ErrNil)
		}
	}
}

// P5.2: wrong paths, at which no fuse blows, and which count before a tree that
// is off.
func TestOpenOfWrongPath(t *testing.T) {
	f := newTree(t, 100)
	f.Fuse(0)
	for range 2 {
		for _, p := range []string{"", ".", "A", "a//b", "../a", ".a", "/a", "a/", "a/b/c/d/e", tempPath, strings.Repeat("a", 25), strings.Repeat("-/", 32)} {
			refuses(t, f, p, api.ErrArg)
		}
		refuses(t, f, strings.Repeat("a/", 32)+"a", api.ErrLong)
		refuses(t, f, strings.Repeat("A", 65), api.ErrLong)
		f.Read("a") // it is off
	}
	if f.On() {
		t.Error("the fuse is gone")
	}
}

// P5.2: paths of all lengths.
func TestOpenOfPaths(t *testing.T) {
	f := newTree(t, 1000)
	all := []string{"a", "a/b/c/d", "log.txt", strings.Repeat("a", 24), strings.Repeat(strings.Repeat("a", 20)+"/", 3) + "b", strings.Repeat("a", 24) + "/" + strings.Repeat("b", 24) + "/" + strings.Repeat("c", 14)}
	for i, p := range all {
		l, s, e := wal.Open(f, p)
		if e != api.OK || len(s) > 0 || l.Append(p) != api.OK || l.Sync() != api.OK {
			t.Fatalf("%q: %q, %d", p, s, e)
		}
		if len(f.Paths("")) != i+1 || len(f.Safe()) != i+1 {
			t.Errorf("%q: %q", p, f.Paths(""))
		}
	}
	f.Crash(0, nil)
	for _, p := range all {
		if _, s, e := wal.Open(f, p); e != api.OK || !slices.Equal(s, []string{p}) {
			t.Errorf("%q: %q, %d", p, s, e)
		}
	}
}

// P5.2: without a file the log is replaced by no records: it is safe at once.
func TestOpenMakes(t *testing.T) {
	f := newTree(t, 0)
	l := yields(t, f)
	if l.Size() != 0 || l.Count() != 0 {
		t.Error(l.Size(), l.Count())
	}
	hasPaths(t, f, logPath)
	f.Crash(0, nil)
	hasPaths(t, f, logPath)
	yields(t, f)
}

// P5.2: a temporary file that a crash left is removed, with or without a log.
func TestOpenRemovesTemp(t *testing.T) {
	f := newTree(t, 20)
	run(f, mk(tempPath), write(tempPath, []byte("01234567890123456789")), syncs(tempPath), syncPaths())
	yields(t, f)
	hasPaths(t, f, logPath)
	run(f, add(logPath, framed("a")), mk(tempPath), write(tempPath, []byte("x")), mk(".tmp/db/log2"), mk(".tmp/db"))
	yields(t, f, "a")
	hasPaths(t, f, ".tmp/db", ".tmp/db/log2", logPath)
	has(t, f, logPath, framed("a"))
	run(f, mk(tempPath), write(tempPath, []byte("x")), add(logPath, []byte{0}))
	yields(t, f, "a")
	hasPaths(t, f, ".tmp/db", ".tmp/db/log2", logPath)
	has(t, f, logPath, framed("a"))
}

// P5.2: a file that is there is read, with its bytes, its records and their
// number; a torn one is replaced by its complete frames.
func TestOpenOfTorn(t *testing.T) {
	records := []string{"first", "", "third"}
	all := framed(records...)
	for n := range len(all) + 1 {
		f := with(t, all[:n])
		want, whole, _ := scanned(all[:n])
		clock := f.Clock()
		l := yields(t, f, want...)
		if l.Size() != whole || l.Count() != len(want) {
			t.Errorf("%d bytes: %d, %d", n, l.Size(), l.Count())
		}
		has(t, f, logPath, all[:whole])
		if whole == n && f.Clock() != clock {
			t.Errorf("%d bytes, which are whole, were replaced", n)
		}
		f.Crash(0, nil)
		has(t, f, logPath, all[:whole])
		hasPaths(t, f, logPath)
		yields(t, f, want...).Append("more")
		yields(t, f, append(want, "more")...)
	}
}

// P5.2: a corrupt file stays as it is, and its temporary file, too.
func TestOpenOfCorrupt(t *testing.T) {
	for _, b := range [][]byte{{0, 16, 0, 1}, make([]byte, 8), append(framed("a"), 255, 255, 255, 255), append(append(framed("a"), make([]byte, 8)...), framed("b")...)} {
		f := with(t, b)
		refuses(t, f, logPath, api.ErrBad)
		run(f, mk(tempPath), write(tempPath, []byte("x")))
		refuses(t, f, logPath, api.ErrBad)
		has(t, f, logPath, b)
		has(t, f, tempPath, []byte("x"))
	}
	for i := 4; i < 13; i++ {
		b := framed("piece")
		b[i] ^= 4
		refuses(t, with(t, b), logPath, api.ErrBad)
	}
}

// P5.2: the error of the tree at any step: where it is off, or has no room.
func TestOpenWithErrorOfTree(t *testing.T) {
	for _, b := range [][]byte{nil, framed("a"), {0}, {255, 255, 255, 255}} {
		f := with(t, b)
		f.Fuse(0)
		f.Read(logPath)
		refuses(t, f, logPath, api.ErrOff)
	}
	f := newTree(t, 10)
	run(f, fuse(0), mk("a"))
	refuses(t, f, logPath, api.ErrOff)

	f = newTree(t, 20)
	run(f, mk(logPath), add(logPath, append(framed("a"), 0, 0, 0)))
	for range 2 {
		if l, s, e := wal.Open(f, logPath); l != nil || s != nil || e != api.ErrFull {
			t.Errorf("Open of a torn one without room: %v, %q, %d", l, s, e)
		}
		has(t, f, logPath, append(framed("a"), 0, 0, 0))
	}
	f = newTree(t, 21)
	run(f, mk(logPath), add(logPath, append(framed("a"), 0, 0, 0)))
	yields(t, f, "a")
}

// P5.2: the operations of Open are these and no others, in this order: with a
// fuse at each of them log and twin have the same files, then and after each
// crash.
func TestOpenStepByStep(t *testing.T) {
	torn := append(framed("a", "b"), 0, 0, 0, 9, 1)
	for _, x := range []struct {
		ops   []op
		steps int
	}{
		{nil, 5},
		{[]op{mk(tempPath), add(tempPath, torn)}, 6},
		{[]op{mk(logPath)}, 1},
		{[]op{mk(logPath), add(logPath, framed("a", "b")), syncs(logPath)}, 1},
		{[]op{mk(logPath), add(logPath, framed("a", "b")), mk(tempPath), syncPaths()}, 2},
		{[]op{mk(logPath), add(logPath, torn), syncs(logPath), syncPaths()}, 6},
		{[]op{mk(logPath), add(logPath, torn), mk(tempPath), add(tempPath, torn), syncs(tempPath)}, 7},
		{[]op{mk(logPath), add(logPath, make([]byte, 8)), mk(tempPath)}, 1},
	} {
		for n := range x.steps + 1 {
			for keep := range 6 {
				p := begin(t, 1000)
				for _, o := range append(slices.Clone(x.ops), fuse(n)) {
					p.must(t, byHand(o))
				}
				if e := p.do(t, opens()); (e == api.ErrOff) != (n < x.steps) {
					t.Fatalf("a fuse of %d: %d", n, e)
				}
				if p.tree.Read(logPath); p.tree.On() {
					t.Fatalf("there are less than %d steps", x.steps)
				}
				p.do(t, byHand(mk("a")), byHand(crash(keep, 3, 3, 3)), opens(), opens())
			}
		}
	}
}

// Rule 3: the path is not kept, the records are nobody else's.
func TestOpenMemory(t *testing.T) {
	f := with(t, append(framed("one", "two"), 0))
	p := []byte(logPath)
	l, s, e := wal.Open(f, unsafe.String(&p[0], len(p)))
	if e != api.OK || string(p) != logPath {
		t.Fatal(e)
	}
	copy(p, "xx/yyy")
	s = s[:cap(s)]
	for i := range s {
		s[i] = "x"
	}
	if l.Append("three") != api.OK || l.Sync() != api.OK || l.Aside([]string{"four", "five"}) != api.OK || l.Append("six") != api.OK {
		t.Error("the path was kept")
	}
	hasPaths(t, f, logPath)
	yields(t, f, "four", "five", "six")
	_, r, _ := wal.Open(f, logPath)
	_, s, _ = wal.Open(f, logPath)
	for i := range r {
		if &r[i] == &s[i] || unsafe.StringData(r[i]) == unsafe.StringData(s[i]) {
			t.Errorf("%q was returned twice", r[i])
		}
	}
	has(t, f, logPath, framed("four", "five", "six"))
}

// T6: two logs in a tree, and logs in two trees, do not touch each other.
func TestTwoLogs(t *testing.T) {
	f, g := newTree(t, 1000), newTree(t, 1000)
	a, _, _ := wal.Open(f, "a")
	b, _, _ := wal.Open(f, "b")
	c, _, _ := wal.Open(g, "a")
	a.Append("1")
	b.Append("2")
	c.Aside([]string{"3"})
	a.Aside([]string{"4"})
	b.Sync()
	f.Remove("a")
	if a.Sync() != api.ErrNone || b.Append("5") != api.OK || c.Append("6") != api.OK {
		t.Error("an error of another one")
	}
	for _, x := range []struct {
		f    *tree.Tree
		p    string
		want []string
	}{{f, "a", nil}, {f, "b", []string{"2", "5"}}, {g, "a", []string{"3", "6"}}} {
		if _, s, e := wal.Open(x.f, x.p); e != api.OK || !slices.Equal(s, x.want) {
			t.Errorf("%q: %q, %d", x.p, s, e)
		}
	}
}
