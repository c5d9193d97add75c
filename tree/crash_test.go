package tree_test

import (
	"math"
	"slices"
	"strings"
	"testing"

	"packtrain/api"
	"packtrain/tree"
)

// The chapter's examples.
func TestExamples(t *testing.T) {
	f, _ := begin(t, 100)
	must(t, f, mk("a"), write("a", "xy"), syncs("a"), syncPaths(), add("a", "z"), crash(0, 1))
	has(t, f, "a", "xyz")
	replace := []call{mk("b"), write("b", "q"), syncs("b"), rename("b", "a")}
	must(t, f, append(replace, crash(1))...)
	if got := f.Paths(""); !slices.Equal(got, []string{"a", "b"}) {
		t.Errorf("%q", got)
	}
	has(t, f, "a", "xyz")
	must(t, f, remove("b"), syncPaths())
	must(t, f, append(replace, crash(2))...)
	has(t, f, "a", "q")
	if got := f.Paths(""); !slices.Equal(got, []string{"a"}) {
		t.Errorf("%q", got)
	}
	must(t, f, fuse(0))
	if b, e := f.Read("a"); e != api.ErrOff || b != nil || f.On() {
		t.Error(b, e, f.On())
	}
}

// What a crash leaves of the changes of paths, written out.
func TestKeep(t *testing.T) {
	states := []string{"a:1", "a:1 b:2", "b:2", "b:2 c:3", "b:3", "c:3", ""}
	for keep, want := range map[int]string{0: states[0], 1: states[1], 2: states[2], 3: states[3], 4: states[4], 5: states[5],
		6: states[6], 7: states[0], 8: states[1], 13: states[6], 14: states[0], -1: states[0], -8: states[0],
		math.MinInt: states[0], math.MaxInt: states[math.MaxInt%7]} {
		f, _ := begin(t, 100)
		must(t, f, mk("a"), write("a", "1"), syncs("a"), syncPaths())
		must(t, f, mk("b"), write("b", "2"), syncs("b"), remove("a"), mk("c"), write("c", "3"), syncs("c"))
		must(t, f, rename("c", "c"), rename("c", "b"), rename("b", "c"), remove("c"), crash(keep))
		if got := contents(t, f); got != want {
			t.Errorf("%d: %s, not %s", keep, got, want)
		}
	}
}

// contents are the files of a tree that is on.
func contents(t *testing.T, f *tree.Tree) string {
	t.Helper()
	var all []string
	for _, p := range f.Paths("") {
		b, e := f.Read(p)
		if e != api.OK {
			t.Fatalf("%q: %d", p, e)
		}
		all = append(all, p+":"+string(b))
	}
	return strings.Join(all, " ")
}

// What a crash leaves of bytes, written out.
func TestParts(t *testing.T) {
	for _, x := range []struct {
		calls []call
		parts []int
		want  string
	}{
		{nil, nil, "a:xy"},
		{nil, []int{1}, "a:xy"},
		{[]call{add("a", "zzt")}, nil, "a:xy"},
		{[]call{add("a", "zzt")}, []int{0}, "a:xy"},
		{[]call{add("a", "zzt")}, []int{1}, "a:xyz"},
		{[]call{add("a", "zzt")}, []int{2}, "a:xyzz"},
		{[]call{add("a", "zzt")}, []int{3}, "a:xyzzt"},
		{[]call{add("a", "zzt")}, []int{4}, "a:xy"},
		{[]call{add("a", "zzt")}, []int{9}, "a:xyz"},
		{[]call{add("a", "zzt")}, []int{math.MaxInt}, "a:xyzzt"}, // 2^63 - 1 is 3 modulo 4
		{[]call{add("a", "zzt")}, []int{-1}, "a:xy"},
		{[]call{add("a", "zzt")}, []int{math.MinInt}, "a:xy"},
		{[]call{add("a", "z"), add("a", "z"), add("a", "t")}, []int{2}, "a:xyzz"},
		{[]call{add("a", "z"), syncs("a"), add("a", "zt")}, []int{1}, "a:xyzz"},
		{[]call{add("a", "z"), syncs("a"), add("a", "zt")}, []int{3}, "a:xyz"},
		{[]call{write("a", "xyab")}, []int{1}, "a:xya"}, // rewritten, but it begins with what is safe
		{[]call{write("a", "xy")}, []int{5}, "a:xy"},
		{[]call{write("a", "ab"), write("a", "xyab")}, []int{2}, "a:xyab"},
		{[]call{write("a", "x")}, []int{1}, "a:xy"},
		{[]call{write("a", "")}, []int{1}, "a:xy"},
		{[]call{write("a", "xzyx")}, []int{1}, "a:xy"},
		{[]call{write("a", "yxy")}, []int{1}, "a:xy"},
		{[]call{write("a", "q"), syncs("a")}, []int{1}, "a:q"},
		{[]call{write("a", ""), syncs("a"), write("a", "qr")}, []int{1}, "a:q"},
		{[]call{write("a", "q"), syncs("a"), add("a", "r"), write("a", "xyz")}, []int{1}, "a:q"},
		// one number for each file, also for one that keeps nothing more
		{[]call{mk("b"), write("b", "pq")}, []int{1, 1}, "a:xy b:p"},
		{[]call{mk("b"), write("b", "pq")}, []int{1}, "a:xy b:"},
		{[]call{mk("b"), write("b", "pq"), write("a", "")}, []int{1, 2}, "a:xy b:pq"},
		{[]call{mk("b"), write("b", "pq"), mk("0"), write("0", "rs")}, []int{1, 0, 2}, "0:r a:xy b:pq"},
		{[]call{mk(".tmp/b"), write(".tmp/b", "pq"), mk("c"), write("c", "rst"), add("a", "z")}, []int{-3, 5, 6, 7}, ".tmp/b: a:xyz c:rs"},
		{[]call{mk("b"), write("b", "pq")}, []int{0, 2, 1, 1}, "a:xy b:pq"},
	} {
		f, _ := begin(t, 100)
		must(t, f, mk("a"), write("a", "xy"), syncs("a"), syncPaths())
		must(t, f, crash(changes(t, f, x.calls), x.parts...))
		if got := contents(t, f); got != x.want {
			t.Errorf("%+v, %v: %s, not %s", x.calls, x.parts, got, x.want)
		}
	}
}

// changes calls a tree, and returns how many changes of paths are not safe.
func changes(t *testing.T, f *tree.Tree, calls []call) (n int) {
	t.Helper()
	must(t, f, calls...)
	for _, c := range calls {
		switch c.kind {
		case "make", "remove":
			n++
		case "rename":
			if c.path != c.to {
				n++
			}
		case "syncpaths":
			n = 0
		}
	}
	return n
}

// A file is what it is whatever its path: its bytes are synced, and brought
// back, with another one, or with none.
func TestFilesAndPaths(t *testing.T) {
	for _, x := range []struct {
		calls []call
		keep  int
		parts []int
		want  string
	}{
		// synced under another path than the one that is safe
		{[]call{rename("a", "b"), add("b", "z"), syncs("b")}, 0, nil, "a:xyz"},
		{[]call{rename("a", "b"), add("b", "z"), syncs("b")}, 1, nil, "b:xyz"},
		{[]call{rename("a", "b"), write("b", "q"), syncs("b")}, 0, nil, "a:q"},
		{[]call{rename("a", "b"), add("b", "zz")}, 0, []int{1}, "a:xyz"},
		// gone, and back with what it had
		{[]call{remove("a")}, 0, nil, "a:xy"},
		{[]call{add("a", "zz"), remove("a")}, 0, []int{1}, "a:xyz"},
		{[]call{add("a", "zz"), syncs("a"), remove("a")}, 0, nil, "a:xyzz"},
		{[]call{write("a", "q"), remove("a")}, 0, []int{1}, "a:xy"},
		{[]call{mk("b"), write("b", "qr"), remove("b")}, 1, []int{0, 1}, "a:xy b:q"},
		{[]call{mk("b"), write("b", "qr"), remove("b")}, 2, []int{0, 1}, "a:xy"},
		// another file with the same path is another file
		{[]call{remove("a"), mk("a"), write("a", "q"), syncs("a")}, 0, nil, "a:xy"},
		{[]call{remove("a"), mk("a"), write("a", "q"), syncs("a")}, 1, nil, ""},
		{[]call{remove("a"), mk("a"), write("a", "q"), syncs("a")}, 2, nil, "a:q"},
		{[]call{remove("a"), mk("a"), write("a", "xyz")}, 0, []int{1}, "a:xy"},
		{[]call{remove("a"), mk("a"), write("a", "xyz")}, 2, []int{1}, "a:x"},
		{[]call{remove("a"), mk("a"), write("a", "xyz")}, 2, nil, "a:"},
		// replaced by a rename
		{[]call{mk("b"), write("b", "q"), syncs("b"), rename("b", "a")}, 0, nil, "a:xy"},
		{[]call{mk("b"), write("b", "q"), syncs("b"), rename("b", "a")}, 2, nil, "a:q"},
		{[]call{mk("b"), write("b", "q"), rename("b", "a")}, 2, nil, "a:"},
		{[]call{mk("b"), write("b", "q"), syncs("b"), rename("a", "b")}, 1, nil, "a:xy b:q"},
		{[]call{mk("b"), write("b", "q"), syncs("b"), rename("a", "b")}, 2, nil, "b:xy"},
		// in a ring
		{[]call{rename("a", "b"), rename("b", "c"), rename("c", "a")}, 1, nil, "b:xy"},
		{[]call{rename("a", "b"), rename("b", "c"), rename("c", "a")}, 2, nil, "c:xy"},
		{[]call{rename("a", "b"), rename("b", "c"), rename("c", "a")}, 3, nil, "a:xy"},
		// synced paths are not undone, but bytes are
		{[]call{rename("a", "b"), add("b", "z"), syncPaths()}, 0, nil, "b:xy"},
		{[]call{remove("a"), syncPaths()}, 0, nil, ""},
		{[]call{mk("b"), write("b", "q"), syncPaths(), remove("b"), mk("c")}, 1, nil, "a:xy"},
	} {
		f, _ := begin(t, 100)
		must(t, f, mk("a"), write("a", "xy"), syncs("a"), syncPaths())
		must(t, f, x.calls...)
		must(t, f, crash(x.keep, x.parts...))
		if got := contents(t, f); got != x.want {
			t.Errorf("%+v, %d, %v: %s, not %s", x.calls, x.keep, x.parts, got, x.want)
		}
	}
}

// What is safe, written out; a tree that is off still has what it had.
func TestSafe(t *testing.T) {
	f, _ := begin(t, 100)
	safe := func(want ...api.File) {
		t.Helper()
		if got := f.Safe(); !slices.EqualFunc(got, want, sameFile) {
			t.Errorf("%q, not %q", got, want)
		}
	}
	must(t, f, mk("b"), write("b", "xy"), syncs("b"))
	safe()
	must(t, f, syncPaths())
	safe(file("b", "xy"))
	must(t, f, mk("a"), write("a", "q"), add("b", "z"))
	safe(file("b", "xy"))
	must(t, f, syncs("b"))
	safe(file("b", "xyz"))
	must(t, f, syncPaths())
	safe(file("a", ""), file("b", "xyz"))
	must(t, f, rename("b", ".tmp/b"), remove("a"), write(".tmp/b", "r"))
	safe(file("a", ""), file("b", "xyz"))
	must(t, f, syncs(".tmp/b"), fuse(0))
	f.SyncPaths()
	safe(file("a", ""), file("b", "r"))
	if got := f.Paths(""); !slices.Equal(got, []string{".tmp/b"}) || f.Left() != 99 {
		t.Errorf("%q", got)
	}
	must(t, f, crash(1, 0, 1))
	safe(file(".tmp/b", "r"), file("a", "q"))
	must(t, f, syncPaths(), remove("a"), syncPaths())
	safe(file(".tmp/b", "r"))
}

// file is a file.
func file(p, b string) api.File {
	return api.File{Path: p, Bytes: []byte(b)}
}

// What a crash leaves of stamps and of the clock, written out.
func TestStampsAfterCrash(t *testing.T) {
	f, _ := begin(t, 100)
	must(t, f, mk("a"), mk("b"), mk("c"), mk("d"), mk("e"), write("a", "x"), write("b", "x"), syncs("a"), syncs("b"), syncPaths()) // 7
	must(t, f, write("a", "x"), add("b", "y"), remove("c"), rename("d", "f"), mk("g"), write("g", "x"), rename("f", "d"))          // 14
	must(t, f, write("e", ""), crash(2))                                                                                           // 15
	// What is kept: c is gone, and d is f.
	if f.Clock() != 18 {
		t.Error(f.Clock())
	}
	stamped(t, f, "a", 1, 8) // the same path and bytes
	stamped(t, f, "b", 1, 17)
	stamped(t, f, "e", 0, 15)
	stamped(t, f, "f", 0, 18)
	must(t, f, crash(0))
	stamped(t, f, "a", 1, 8)
	stamped(t, f, "b", 1, 17)
	if f.Clock() != 19 {
		t.Error(f.Clock())
	}
	must(t, f, rename("a", "h"), rename("h", "a"), crash(2)) // 22
	stamped(t, f, "a", 1, 8)
	must(t, f, rename("a", "h"), rename("h", "a"), crash(0)) // 25
	stamped(t, f, "a", 1, 8)
	must(t, f, rename("a", "h"), rename("h", "a"), crash(1)) // 28, 29
	stamped(t, f, "h", 1, 29)
	must(t, f, remove("h"), mk("h"), write("h", "x"), syncs("h"), crash(2)) // 33
	stamped(t, f, "h", 1, 32)
	must(t, f, crash(0)) // 34
	must(t, f, syncPaths(), remove("h"), mk("h"), write("h", "x"), crash(0))
	stamped(t, f, "h", 1, 39) // the same path and bytes, but those of another file
	if f.Clock() != 39 {
		t.Error(f.Clock())
	}
}
