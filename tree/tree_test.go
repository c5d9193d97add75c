package tree_test

import (
	"math"
	"math/rand"
	"slices"
	"strings"
	"testing"
	"unsafe"

	"packtrain/api"
	"packtrain/tree"
)

// P4.1
func TestNew(t *testing.T) {
	for _, room := range []int{0, 1, 100, api.MaxRoom - 1, api.MaxRoom} {
		f, e := tree.New(room)
		if e != api.OK || f == nil || !f.On() || f.Left() != room || f.Clock() != 0 || len(f.Paths("")) > 0 || len(f.Safe()) > 0 {
			t.Errorf("New(%d): %d", room, e)
		}
	}
	for _, room := range []int{-1, math.MinInt, api.MaxRoom + 1, math.MaxInt, 1 << 32} {
		if f, e := tree.New(room); e != api.ErrArg || f != nil {
			t.Errorf("New(%d): %d", room, e)
		}
	}
}

// P4.1: trees share nothing.
func TestTwoTrees(t *testing.T) {
	f, _ := begin(t, 10)
	g, _ := begin(t, 10)
	before := look(g)
	must(t, f, mk("a"), write("a", "xy"), syncs("a"), syncPaths(), fuse(0))
	f.Make("b")
	if look(g) != before {
		t.Errorf("%s after %s", look(g), before)
	}
}

// P4.2 and P4.3: a tree that is nil, or zero.
func TestInvalid(t *testing.T) {
	for _, f := range []*tree.Tree{nil, {}} {
		for _, p := range []string{"a", "", "A"} {
			for _, c := range []call{mk(p), write(p, "x"), add(p, "x"), syncs(p), syncPaths(), rename(p, "b"), rename("b", p), remove(p),
				read(p), fuse(0), fuse(-1), crash(0), crash(1, 1)} {
				fails(t, f, c, api.ErrNil)
			}
			if size, stamp, ok := f.Stat(p); size != 0 || stamp != 0 || ok {
				t.Error(size, stamp, ok)
			}
			if f.Paths(p) != nil {
				t.Error(f.Paths(p))
			}
		}
		if f.Left() != 0 || f.Clock() != 0 || f.On() || f.Safe() != nil {
			t.Error(look(f))
		}
	}
}

// P4.3: Paths begins with a text, be it a path or not.
func TestPathsWithin(t *testing.T) {
	f, _ := begin(t, 100)
	all := []string{"b", ".tmp/a/b", "a/b", "a", "ab", "a.b", ".tmp/b", "a/b/c", "a-b"}
	for _, p := range all {
		must(t, f, mk(p))
	}
	for _, within := range []string{"", "a", "a/", "a/b", "ab", ".", ".tmp", ".tmp/", ".tmp/a", "b", "b/", "c", "/", "B", strings.Repeat("a", 100)} {
		var want []string
		for _, p := range all {
			if strings.Index(p, within) == 0 {
				want = append(want, p)
			}
		}
		slices.Sort(want)
		if got := f.Paths(within); !slices.Equal(got, want) {
			t.Errorf("%q: %q, not %q", within, got, want)
		}
	}
}

// P4.3: Stat of what is no path, or was one.
func TestStatOfNothing(t *testing.T) {
	f, _ := begin(t, 100)
	must(t, f, mk("a"), mk("b"), write("b", "x"), rename("b", "c"), remove("a"))
	for _, p := range append(wrongPaths(), "a", "b", "c/d", ".tmp/c") {
		if size, stamp, ok := f.Stat(p); size != 0 || stamp != 0 || ok {
			t.Errorf("%q: %d, %d, %v", p, size, stamp, ok)
		}
	}
	stamped(t, f, "c", 1, 3)
}

// Rule 3: what is passed to a tree may be changed, and what it returns, too.
func TestMemory(t *testing.T) {
	f, _ := begin(t, 100)
	b := []byte("xyz!")
	parts := []int{1, 2, 9}
	must(t, f, mk("a"), mk("b"))
	f.Write("a", b[:1])
	f.Sync("a")
	f.Append("a", b[1:3])
	f.Write("b", b[:2])
	if string(b) != "xyz!" {
		t.Errorf("changed to %q", b)
	}
	copy(b, "----")
	has(t, f, "a", "xyz")
	f.Crash(2, parts[:2])
	if !slices.Equal(parts, []int{1, 2, 9}) {
		t.Error(parts)
	}
	has(t, f, "a", "xy")
	has(t, f, "b", "xy")
	for range 2 {
		got, _ := f.Read("a")
		spoil(got)
		for _, s := range f.Safe() {
			spoil(s.Bytes)
		}
		spoilTexts(f.Paths(""))
	}
	has(t, f, "a", "xy")
	has(t, f, "b", "xy")
	if got := f.Safe(); string(got[0].Bytes) != "xy" || string(got[1].Bytes) != "xy" {
		t.Errorf("%q", got)
	}
	must(t, f, add("a", "z"))
	has(t, f, "a", "xyz")
}

// spoil changes bytes and what their spare capacity has.
func spoil(b []byte) {
	b = b[:cap(b)]
	for i := range b {
		b[i] = '-'
	}
}

// spoilTexts changes texts.
func spoilTexts(s []string) {
	s = s[:cap(s)]
	for i := range s {
		s[i] = "-"
	}
}

// Rule 3: no path that is passed is kept, and none that is kept is returned.
func TestMemoryOfPaths(t *testing.T) {
	for keep, want := range map[int][]string{3: {"c", "d/e"}, 4: {"c"}} {
		f, _ := begin(t, 100)
		p, q := []byte("a/b"), []byte("c")
		f.Make(text(p))
		f.Rename(text(p), text(q))
		copy(p, "d/e")
		f.Make(text(p))
		f.Remove(text(p))
		copy(p, "---")
		copy(q, "-")
		if got := f.Paths(""); !slices.Equal(got, []string{"c"}) {
			t.Errorf("%q", got)
		}
		must(t, f, crash(keep))
		seen := map[*byte]bool{}
		for range 2 {
			got := f.Paths("")
			if !slices.Equal(got, want) {
				t.Errorf("%d: %q, not %q", keep, got, want)
			}
			for _, s := range f.Safe() {
				got = append(got, s.Path)
			}
			for _, s := range got {
				if seen[unsafe.StringData(s)] {
					t.Errorf("%q is returned twice", s)
				}
				seen[unsafe.StringData(s)] = true
			}
		}
	}
}

// text is a text that changes with b, as none should.
func text(b []byte) string {
	return unsafe.String(&b[0], len(b))
}

// P4.2 and P4.3: all calls in any order are as the model says.
func TestAsTheModel(t *testing.T) {
	met := map[string]int{}
	for seed := range 600 {
		random := rand.New(rand.NewSource(int64(seed)))
		f, m := begin(t, []int{0, 3, 20, 1000}[seed%4])
		for range 300 {
			c := anyCall(random)
			e := both(t, f, m, c)
			met[c.kind+string(rune('0'+e))]++
		}
		both(t, f, m, crash(1000, 1000))
		m.checkBytes(t, f)
	}
	for _, kind := range []string{"make0", "make2", "make7", "make;", "write0", "write2", "write6", "write:", "write;", "append0",
		"append:", "append;", "sync0", "sync6", "sync;", "syncpaths0", "syncpaths;", "rename0", "rename2", "rename6", "rename;",
		"remove0", "remove6", "remove;", "read0", "read2", "read6", "read;", "fuse0", "crash0"} {
		if met[kind] < 20 {
			t.Errorf("%s was met %d times", kind, met[kind])
		}
	}
}

// T6: what a call answers depends on nothing else.
func TestSameAgain(t *testing.T) {
	all := map[string]bool{}
	for range 5 {
		random := rand.New(rand.NewSource(7))
		f, _ := begin(t, 30)
		s := ""
		for range 500 {
			anyCall(random).onTree(f)
			s += look(f)
		}
		all[s] = true
	}
	if len(all) != 1 {
		t.Errorf("%d different lives", len(all))
	}
}
