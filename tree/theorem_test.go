package tree_test

import (
	"bytes"
	"fmt"
	"math/rand"
	"testing"

	"packtrain/api"
	"packtrain/tree"
)

// lives are operations at each of which a crash is tried.
func lives() [][]call {
	all := [][]call{
		{mk("a"), write("a", "xy"), syncs("a"), syncPaths(), add("a", "z"), add("a", "z"), syncs("a"), add("a", "x"), write("a", "q"),
			syncs("a"), syncPaths(), write("a", ""), syncs("a"), add("a", "xyz"), read("a")},
		{mk("a"), write("a", "old"), syncs("a"), syncPaths(), mk(".tmp/a"), write(".tmp/a", "new"), syncs(".tmp/a"), rename(".tmp/a", "a"),
			syncPaths(), mk(".tmp/a"), add(".tmp/a", "newer"), rename(".tmp/a", "a"), syncs("a"), syncPaths()},
		{mk("a"), mk("b"), mk("c"), write("a", "1"), write("b", "2"), write("c", "3"), syncs("b"), rename("a", "b"), rename("b", "c"), syncPaths(),
			rename("c", "a"), remove("a"), mk("a"), syncs("a"), write("a", "34"), rename("a", "a"), remove("a"), syncPaths()},
		{syncPaths(), read("a"), mk("a"), mk("a"), mk("A"), write("a", "0123456789012345678901"), add("a", "x"), remove("b"), remove("a"),
			mk("a"), add("a", "x"), remove("a"), mk("a"), add("a", "xy"), syncs("a"), remove("a"), rename("a", "b"), mk("b")},
	}
	for seed := range 12 {
		random, life := rand.New(rand.NewSource(int64(seed))), []call{}
		for len(life) < 30 {
			if c := anyCall(random); c.kind != "fuse" && c.kind != "crash" {
				life = append(life, c)
			}
		}
		all = append(all, life)
	}
	return all
}

// everyPart are what crashes keep of the bytes of files.
func everyPart() [][]int {
	return [][]int{nil, {1, 1, 1, 1, 1, 1, 1, 1}, {5, 0, 4, 3, 2, -1, 7}, {1000, 1001, 1002, 1003}}
}

// Each crash, at each operation, is as the model says, and so is the life after
// it, up to a second crash.
func TestCrashAtEveryOperation(t *testing.T) {
	crashes := 0
	for _, life := range lives() {
		for n := range len(life) + 1 {
			for keep, most := -1, 0; keep <= most+1; keep++ {
				for _, parts := range everyPart() {
					f, m := begin(t, 20)
					both(t, f, m, fuse(n))
					run(t, f, m, life...)
					most = len(m.states) - 1
					both(t, f, m, crash(keep, parts...))
					m.checkBytes(t, f)
					run(t, f, m, life...)
					run(t, f, m, crash(keep+n, parts...), crash(0))
					m.checkBytes(t, f)
					crashes++
				}
			}
		}
	}
	if crashes < 5000 {
		t.Errorf("only %d crashes", crashes)
	}
}

// P4.4: what is safe is there after each crash, unless a change of paths that
// was kept put something else, or nothing, in its place; a file that was not
// rewritten has at most bytes after it.
func TestWhatIsSafeStays(t *testing.T) {
	stayed := 0
	for _, life := range lives() {
		for n := range len(life) + 1 {
			for keep := range 8 {
				for _, parts := range everyPart() {
					f, _ := begin(t, 20)
					must(t, f, fuse(n))
					kept := touched(f, life, keep)
					safe := f.Safe()
					must(t, f, crash(keep, parts...))
					for _, s := range safe {
						if kept[s.Path] {
							continue
						}
						stayed++
						b, e := f.Read(s.Path)
						if e != api.OK || !bytes.HasPrefix(b, s.Bytes) || parts == nil && !bytes.Equal(b, s.Bytes) {
							t.Fatalf("%+v, a fuse of %d, %d kept: %q has %q (%d), and had %q", life, n, keep, s.Path, b, e, s.Bytes)
						}
					}
				}
			}
		}
	}
	if stayed < 5000 {
		t.Errorf("only %d files stayed", stayed)
	}
}

// touched calls a tree, and returns the paths that the first changes that are
// not safe touch, as many as a crash keeps.
func touched(f *tree.Tree, life []call, keep int) map[string]bool {
	var changes [][]string
	for _, c := range life {
		_, e := c.onTree(f)
		if e != api.OK {
			continue
		}
		switch c.kind {
		case "syncpaths":
			changes = nil
		case "make", "remove":
			changes = append(changes, []string{c.path})
		case "rename":
			if c.path != c.to {
				changes = append(changes, []string{c.path, c.to})
			}
		}
	}
	all := map[string]bool{}
	for _, c := range changes[:keep%(len(changes)+1)] {
		for _, p := range c {
			all[p] = true
		}
	}
	return all
}

// P4.4: after Sync of all files and SyncPaths a crash changes nothing but the
// clock.
func TestAllSynced(t *testing.T) {
	for seed := range 300 {
		random := rand.New(rand.NewSource(int64(seed)))
		f, _ := begin(t, 30)
		for range 80 {
			if c := anyCall(random); c.kind != "fuse" {
				c.onTree(f)
			}
		}
		for _, p := range f.Paths("") {
			must(t, f, syncs(p))
		}
		must(t, f, syncPaths())
		files, clock, safe := told(f), f.Clock(), fmt.Sprintf("%q", f.Safe())
		had := contents(t, f)
		must(t, f, crash(random.Intn(5)-1, random.Intn(5)-1, random.Intn(5)-1))
		if told(f) != files || contents(t, f) != had || f.Clock() != clock+1 || fmt.Sprintf("%q", f.Safe()) != safe {
			t.Fatalf("seed %d: %s (%s) was %s (%s)", seed, told(f), contents(t, f), files, had)
		}
	}
}

// told is what a tree tells of its files.
func told(f *tree.Tree) string {
	s := fmt.Sprint(f.Left())
	for _, p := range f.Paths("") {
		size, stamp, ok := f.Stat(p)
		s += fmt.Sprint("; ", p, size, stamp, ok)
	}
	return s
}

// P4.5: after a crash a rename is done or not, completely: the file has one of
// the paths, and what had the other one before is there only if it is not done.
func TestRenameIsWhole(t *testing.T) {
	for _, there := range []bool{false, true} {
		begun, not := []call{mk(".tmp/a"), write(".tmp/a", "new"), syncs(".tmp/a"), syncPaths()}, ".tmp/a:new"
		if there {
			begun, not = append(begun, mk("a"), write("a", "old"), syncs("a"), syncPaths()), ".tmp/a:new a:old"
		}
		life := []call{mk("b"), rename(".tmp/a", "a"), read("a"), add("a", "er"), remove("b"), syncPaths(), read("a")}
		met := map[string]int{}
		for n := range len(life) + 1 {
			for keep := range 5 {
				f, _ := begin(t, 100)
				must(t, f, append(begun, fuse(n))...)
				for _, c := range life {
					c.onTree(f)
				}
				must(t, f, crash(keep))
				f.Remove("b") // it comes and goes, too
				met[contents(t, f)]++
			}
		}
		if len(met) != 2 || met[not] == 0 || met["a:new"] == 0 {
			t.Errorf("%v", met)
		}
	}
}
