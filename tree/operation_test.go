package tree_test

import (
	"strings"
	"testing"

	"packtrain/api"
	"packtrain/tree"
)

// P4.2: a life, written out, with the clock after each call.
func TestOperations(t *testing.T) {
	f, m := begin(t, 10)
	for _, x := range []struct {
		call
		e     api.Errno
		clock uint64
		left  int
	}{
		{mk("a"), api.OK, 1, 10},
		{mk("a"), api.ErrThere, 1, 10},
		{mk(".tmp/a"), api.OK, 2, 10},
		{write("b", ""), api.ErrNone, 2, 10},
		{write("a", "0123456789"), api.OK, 3, 0},
		{write("a", "0123456789"), api.OK, 4, 0}, // the same bytes
		{write("a", "01234567890"), api.ErrFull, 4, 0},
		{add("a", ""), api.OK, 5, 0},
		{add("a", "x"), api.ErrFull, 5, 0},
		{add(".tmp/a", "x"), api.ErrFull, 5, 0},
		{write(".tmp/a", "x"), api.ErrFull, 5, 0},
		{write(".tmp/a", ""), api.OK, 6, 0},
		{write("a", "xyz"), api.OK, 7, 7},
		{add("a", "01234567"), api.ErrFull, 7, 7},
		{add("a", "0123"), api.OK, 8, 3},
		{add("b", "0"), api.ErrNone, 8, 3},
		{write(".tmp/a", "0123"), api.ErrFull, 8, 3},
		{write(".tmp/a", "012"), api.OK, 9, 0},
		{syncs("a"), api.OK, 9, 0},
		{syncs("b"), api.ErrNone, 9, 0},
		{syncPaths(), api.OK, 9, 0},
		{rename("b", "b"), api.ErrNone, 9, 0},
		{rename("b", "a"), api.ErrNone, 9, 0},
		{rename("a", "a"), api.OK, 9, 0},
		{rename("a", "b"), api.OK, 10, 0},
		{read("a"), api.ErrNone, 10, 0},
		{read("b"), api.OK, 10, 0},
		{rename(".tmp/a", "b"), api.OK, 11, 7},
		{remove(".tmp/a"), api.ErrNone, 11, 7},
		{remove("a"), api.ErrNone, 11, 7},
		{mk("a"), api.OK, 12, 7},
		{remove("b"), api.OK, 13, 10},
		{remove("b"), api.ErrNone, 13, 10},
		{syncPaths(), api.OK, 13, 10},
		{syncPaths(), api.OK, 13, 10},
	} {
		if e := both(t, f, m, x.call); e != x.e || f.Clock() != x.clock || f.Left() != x.left {
			t.Fatalf("%+v: %d, the clock is %d, left %d", x, e, f.Clock(), f.Left())
		}
	}
}

// P4.2: bytes and stamps, written out.
func TestBytesAndStamps(t *testing.T) {
	f, _ := begin(t, 100)
	must(t, f, mk("a"))
	stamped(t, f, "a", 0, 1)
	has(t, f, "a", "")
	must(t, f, mk("b"), write("a", "xyz"))
	stamped(t, f, "a", 3, 3)
	stamped(t, f, "b", 0, 2)
	must(t, f, add("a", "\x00\xff"), syncs("a"), syncPaths(), read("a"))
	has(t, f, "a", "xyz\x00\xff")
	stamped(t, f, "a", 5, 4)
	must(t, f, rename("a", "c"), rename("c", "c"))
	stamped(t, f, "c", 5, 4)
	must(t, f, write("b", "q"), rename("c", "b"))
	stamped(t, f, "b", 5, 4)
	has(t, f, "b", "xyz\x00\xff")
	must(t, f, write("b", "xyz\x00\xff"))
	stamped(t, f, "b", 5, 8)
	must(t, f, add("b", ""))
	stamped(t, f, "b", 5, 9)
	must(t, f, write("b", ""))
	stamped(t, f, "b", 0, 10)
	has(t, f, "b", "")
	must(t, f, remove("b"), mk("b"))
	stamped(t, f, "b", 0, 12)
}

// P4.2: a text is a path, or that of a temporary file, or ErrArg; that is said
// before anything else, and no operation.
func TestWhichPaths(t *testing.T) {
	for _, p := range []string{"a", ".tmp/a", "a/b/c/d", ".tmp/a/b/c/d", strings.Repeat("a", 24), "-", "_.-", ".tmp/tmp",
		strings.Repeat("abcdefghijklmnopqrs/", 3) + "abcd", ".tmp/" + strings.Repeat("abcdefghijklmnopqrs/", 3) + "abcd"} {
		f, _ := begin(t, 10)
		must(t, f, mk(p), write(p, "x"), add(p, "y"), syncs(p), rename(p, p), rename(p, "z"), rename("z", p), read(p), remove(p))
	}
	for _, p := range append(wrongPaths(), strings.Repeat("abcdefghijklmnopqrs/", 3)+"abcde", strings.Repeat("a", 1<<20)) {
		f, _ := begin(t, 10)
		must(t, f, mk("a"), fuse(1))
		all := []call{mk(p), write(p, "more than 10 bytes"), add(p, "more than 10 bytes"), syncs(p), rename(p, p),
			rename("a", p), rename(p, "a"), rename("b", p), remove(p), read(p)}
		for _, c := range all {
			fails(t, f, c, api.ErrArg)
		}
		must(t, f, read("a")) // the fuse counted none of them
		if _, e := f.Read("a"); e != api.ErrOff || f.On() {
			t.Fatal(e)
		}
		for _, c := range all {
			fails(t, f, c, api.ErrArg)
		}
	}
}

// P4.2: after an error nothing has changed.
func TestErrors(t *testing.T) {
	f, _ := begin(t, 5)
	must(t, f, mk("a"), write("a", "xyz"), mk(".tmp/a"))
	fails(t, f, mk("a"), api.ErrThere)
	fails(t, f, mk(".tmp/a"), api.ErrThere)
	fails(t, f, write("a", "012345"), api.ErrFull)
	fails(t, f, write(".tmp/a", "012"), api.ErrFull)
	fails(t, f, add("a", "012"), api.ErrFull)
	fails(t, f, rename("a", "A"), api.ErrArg)
	fails(t, f, rename("A", "a"), api.ErrArg)
	for _, c := range []call{write("b", "0123456"), add("b", "0123456"), syncs("b"), rename("b", "a"), rename("b", "b"),
		rename("b", "c"), remove("b"), read("b"), read("a/b"), remove(".tmp/b")} {
		fails(t, f, c, api.ErrNone)
	}
	has(t, f, "a", "xyz")
	// None of these is a change of paths.
	must(t, f, crash(3))
	if got := f.Paths(""); len(got) != 0 {
		t.Errorf("%q", got)
	}
}

// P4.2: a fuse counts each operation, also such as return an error, and such as
// change nothing.
func TestFuse(t *testing.T) {
	operations := []call{mk("a"), mk("a"), write("a", "x"), write("b", "x"), add("a", "y"), syncs("a"), syncs("b"), syncPaths(),
		rename("a", "a"), rename("a", "c"), rename("b", "a"), read("c"), read("b"), write("c", "0123456789x"), remove("c"), remove("c")}
	for n := range len(operations) + 1 {
		f, m := begin(t, 10)
		run(t, f, m, mk("d"), fuse(n))
		for i, c := range operations {
			e := both(t, f, m, c)
			if (e == api.ErrOff) != (i >= n) || f.On() != (i < n) {
				t.Fatalf("a fuse of %d: %+v returned %d, on %v", n, c, e, f.On())
			}
			if i == n { // what is told of a tree that is off
				stamped(t, f, "d", 0, 1)
			}
		}
		both(t, f, m, crash(1))
		if !f.On() {
			t.Fatal("off after a crash")
		}
		run(t, f, m, append(operations, operations...)...)
	}
}

// P4.2: one fuse at most, and none below 0; what asks is no operation.
func TestWhichFuse(t *testing.T) {
	f, m := begin(t, 10)
	run(t, f, m, fuse(0), fuse(-1), mk("a"), fuse(0), fuse(-1<<63), read("a"), fuse(1), fuse(2), read("a"), read("a"))
	f.Stat("a")
	f.Paths("")
	f.Left()
	f.Safe()
	if !f.On() {
		t.Fatal("off too early")
	}
	fails(t, f, read("A"), api.ErrArg)
	if both(t, f, m, mk("b")) != api.ErrOff || f.On() {
		t.Fatal("on")
	}
	for _, n := range []int{5, 0, -1} { // no fuse puts it on
		run(t, f, m, fuse(n), mk("b"), syncPaths(), read("a"))
	}
	if f.On() {
		t.Fatal("on")
	}
	for _, n := range []int{0, 3, 1<<63 - 1} { // and a crash removes it
		run(t, f, m, fuse(n), crash(1))
		for range 10 {
			if both(t, f, m, read("a")) != api.OK {
				t.Fatal("off after a crash")
			}
		}
		run(t, f, m, syncPaths())
	}
}

// P4.2: the greatest room.
func TestGreatestRoom(t *testing.T) {
	f, _ := begin(t, api.MaxRoom)
	must(t, f, mk("a"), mk("b"))
	half := make([]byte, api.MaxRoom/2)
	for _, p := range []string{"a", "b"} {
		if e := f.Write(p, half); e != api.OK {
			t.Fatal(e)
		}
	}
	fails(t, f, add("a", "x"), api.ErrFull)
	must(t, f, write("a", "x"), rename("a", "b"))
	if f.Left() != api.MaxRoom-1 {
		t.Error(f.Left())
	}
	if e := f.Write("b", make([]byte, api.MaxRoom+1)); e != api.ErrFull {
		t.Error(e)
	}
	if e := f.Write("b", make([]byte, api.MaxRoom)); e != api.OK || f.Left() != 0 {
		t.Error(e)
	}
}

// P4.2: what is removed, replaced or shortened gives its room back.
func TestRoom(t *testing.T) {
	f, _ := begin(t, 10)
	for range 100 {
		must(t, f, mk("a"), write("a", "01234"), mk("b"), write("b", "56789"))
		fails(t, f, add("a", "x"), api.ErrFull)
		must(t, f, rename("a", "b"), add("b", "01234"), write("b", "0123"), add("b", "456789"), remove("b"))
		if f.Left() != 10 {
			t.Fatal(f.Left())
		}
	}
}

// P4.2 and P4.3: bytes that a crash brings back may be more than there is room
// for; until there is room again only nothing can be written.
func TestNoRoomAfterCrash(t *testing.T) {
	f, _ := begin(t, 10)
	full := "0123456789"
	must(t, f, mk("a"), write("a", full), syncs("a"), write("a", ""), mk("b"), write("b", full), syncs("b"), write("b", ""),
		mk("c"), write("c", full), syncs("c"), crash(3))
	for _, p := range []string{"a", "b", "c"} {
		has(t, f, p, full)
	}
	if f.Left() != 0 {
		t.Error(f.Left())
	}
	fails(t, f, add("a", "x"), api.ErrFull)
	fails(t, f, write("a", "x"), api.ErrFull)
	must(t, f, add("a", ""), write("a", ""))
	fails(t, f, add("a", "x"), api.ErrFull)
	must(t, f, remove("b"))
	fails(t, f, add("a", "x"), api.ErrFull)
	must(t, f, write("c", "012"), write("a", "3456789"))
	if f.Left() != 0 {
		t.Error(f.Left())
	}
}

// P4.2: what a tree that is off answers.
func TestOff(t *testing.T) {
	f, _ := tree.New(10)
	must(t, f, mk("a"), write("a", "xy"), fuse(0))
	before := look(f)
	if _, e := f.Read("b"); e != api.ErrOff {
		t.Error(e)
	}
	if after := look(f); strings.Replace(after, "false", "true", 1) != before {
		t.Errorf("%s after %s", after, before)
	}
	for _, c := range []call{mk("a"), mk("b"), write("a", "01234567890"), write("b", ""), add("a", ""), add("b", ""), syncs("a"),
		syncs("b"), syncPaths(), rename("a", "a"), rename("a", "b"), rename("b", "a"), remove("a"), remove("b"), read("a"), read("b")} {
		fails(t, f, c, api.ErrOff)
	}
}
