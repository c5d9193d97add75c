package wal_test

import (
	"math/rand"
	"slices"
	"strings"
	"testing"
	"unsafe"

	"packtrain/api"
	"packtrain/tree"
	"packtrain/wal"
)

// The chapter's examples.
func TestExamples(t *testing.T) {
	p := begin(t, 1000)
	p.must(t, opens(), appends("a"), appends("b"), syncsLog(), appends("c"), byHand(crash(0)), opens())
	if got := p.twin.records; !slices.Equal(got, []string{"a", "b"}) {
		t.Errorf("%q", got)
	}
	p.must(t, aside("x"), appends("y"), syncsLog(), opens())
	yields(t, p.tree, "x", "y")
}

// P5.3: a log that Open did not return.
func TestInvalid(t *testing.T) {
	long := strings.Repeat("x", api.MaxPiece+1)
	for _, l := range []*wal.Log{nil, {}} {
		for _, p := range []string{"", "a", long} {
			if e := l.Append(p); e != api.ErrNil {
				t.Error(e)
			}
			if e := l.Aside([]string{p}); e != api.ErrNil {
				t.Error(e)
			}
		}
		if l.Sync() != api.ErrNil || l.Aside(nil) != api.ErrNil || l.Size() != 0 || l.Count() != 0 {
			t.Error(l.Sync(), l.Size(), l.Count())
		}
	}
}

// P5.3: what is appended is in the file, and safe after Sync.
func TestAppend(t *testing.T) {
	p := begin(t, api.MaxRoom)
	p.must(t, opens())
	var all []string
	for _, s := range []string{"a", "", "a", "bc", "\x00\xff", strings.Repeat("x", 300), strings.Repeat("y", api.MaxPiece)} {
		p.must(t, appends(s))
		has(t, p.tree, logPath, framed(append(all, s)...))
		if got := p.tree.Safe(); len(got) != 1 || !slices.Equal(got[0].Bytes, framed(all...)) {
			t.Errorf("%d bytes are safe before Sync", len(got[0].Bytes))
		}
		all = append(all, s)
		p.must(t, syncsLog())
		if got := p.tree.Safe(); len(got) != 1 || !slices.Equal(got[0].Bytes, framed(all...)) {
			t.Errorf("%d bytes are safe after Sync", len(got[0].Bytes))
		}
	}
	yields(t, p.tree, all...)
}

// P5.3: what is put aside replaces all, is safe at once, and leaves no
// temporary file.
func TestAside(t *testing.T) {
	p := begin(t, api.MaxRoom)
	p.must(t, opens(), appends("old"), syncsLog(), appends("older"))
	longest := strings.Repeat("y", api.MaxPiece)
	for _, s := range [][]string{{"a"}, nil, {""}, {"a", "a", "", "b"}, {longest, "x", longest}, {}} {
		p.must(t, appends("more"), aside(s...))
		has(t, p.tree, logPath, framed(s...))
		hasPaths(t, p.tree, logPath)
		p.must(t, byHand(crash(0)), opens(), aside(append(s, "z")...), appends("y"), syncsLog())
		yields(t, p.tree, append(slices.Clone(s), "z", "y")...)
	}
}

// P5.3: the error of wire.Frame, which does nothing, and breaks nothing.
func TestTooLong(t *testing.T) {
	long := strings.Repeat("x", api.MaxPiece+1)
	p := begin(t, api.MaxRoom)
	p.must(t, opens(), appends("a"))
	p.fails(t, appends(long), api.ErrLong)
	for _, s := range [][]string{{long}, {"b", long}, {long, "b"}, {"b", long, long}} {
		p.fails(t, aside(s...), api.ErrLong)
	}
	p.must(t, byHand(fuse(0)))
	p.fails(t, appends(long), api.ErrLong)
	p.fails(t, aside(long), api.ErrLong)
	p.must(t, byHand(fuse(-1)), appends("b"), syncsLog(), aside("c"))
	yields(t, p.tree, "c")
}

// breaks are what breaks a log of a record a: calls of which the last one does,
// and the error.
func breaks() map[string]struct {
	calls []call
	e     api.Errno
} {
	type way = struct {
		calls []call
		e     api.Errno
	}
	return map[string]way{
		"append, none": {[]call{byHand(remove(logPath)), appends("b")}, api.ErrNone},
		"append, full": {[]call{appends("0123456789012345678901234567890")}, api.ErrFull},
		"append, off":  {[]call{byHand(fuse(0)), appends("b")}, api.ErrOff},
		"sync, none":   {[]call{byHand(rename(logPath, "a")), syncsLog()}, api.ErrNone},
		"sync, off":    {[]call{byHand(fuse(0)), syncsLog()}, api.ErrOff},
		"aside, full":  {[]call{aside("012345678901234567890123")}, api.ErrFull},
		"aside, off":   {[]call{byHand(fuse(0)), aside("b")}, api.ErrOff},
		"aside, later": {[]call{byHand(fuse(3)), aside("b")}, api.ErrOff},
		"aside, last":  {[]call{byHand(fuse(4)), aside("b")}, api.ErrOff},
	}
}

// P5.3: the error of the tree breaks a log, which returns it from then on, and
// does nothing, also when the tree would be able to; the error of wire.Frame
// comes before it. Another log of the same file is not broken.
func TestBroken(t *testing.T) {
	long := strings.Repeat("x", api.MaxPiece+1)
	for name, x := range breaks() {
		p := begin(t, 40)
		p.must(t, opens(), appends("a"))
		p.must(t, x.calls[:len(x.calls)-1]...)
		if e := p.do(t, x.calls[len(x.calls)-1]); e != x.e || p.log.Size() != 9 || p.log.Count() != 1 {
			t.Errorf("%s: %d, not %d (%d bytes, %d records)", name, e, x.e, p.log.Size(), p.log.Count())
		}
		for range 2 {
			for _, c := range []call{appends("c"), syncsLog(), aside(), aside("d"), aside(tooMany()...)} {
				p.fails(t, c, x.e)
			}
			p.fails(t, appends(long), api.ErrLong)
			p.fails(t, aside("d", long), api.ErrLong)
			p.must(t, byHand(crash(100, 100, 100)), byHand(func(f *tree.Tree) api.Errno { f.Make(logPath); return api.OK }))
		}
		p.must(t, opens(), appends("e"), syncsLog(), aside("f"), appends("g"))
		yields(t, p.tree, "f", "g")
	}
}

// tooMany are more bytes than there is room for.
func tooMany() []string {
	return slices.Repeat([]string{"x"}, 10000)
}

// P5.3: a replacement needs room beside the log, and none beside that; what has
// no room leaves the log as it was.
func TestRoomForAside(t *testing.T) {
	for room, want := range map[int]api.Errno{27: api.OK, 26: api.ErrFull, 18: api.ErrFull} {
		p := begin(t, room)
		p.must(t, opens(), appends("a"), appends("b"), syncsLog())
		if e := p.do(t, aside("c")); e != want {
			t.Errorf("a room of %d: %d, not %d", room, e, want)
		}
		if want == api.OK {
			yields(t, p.tree, "c")
			continue
		}
		has(t, p.tree, logPath, framed("a", "b"))
		p.must(t, opens())
		hasPaths(t, p.tree, logPath)
		p.must(t, aside())
		yields(t, p.tree)
	}
	p := begin(t, 20)
	p.must(t, opens(), appends("a"), byHand(mk(tempPath)), byHand(add(tempPath, framed("123"))), aside("b"), aside("c"))
	yields(t, p.tree, "c")
}

// P5.3: the operations of each call are these and no others, in this order:
// with a fuse at each of them log and twin have the same files, then and after
// each crash.
func TestStepByStep(t *testing.T) {
	for _, x := range []struct {
		ops   []op
		call  call
		steps int
	}{
		{nil, appends("c"), 1},
		{nil, syncsLog(), 1},
		{nil, aside("c", "d"), 5},
		{nil, aside(), 5},
		{[]op{mk(tempPath), add(tempPath, []byte("x"))}, aside("c", "d"), 6},
		{[]op{mk(tempPath), syncPaths()}, appends("c"), 1},
		{[]op{remove(logPath)}, aside("c"), 5},
	} {
		for n := range x.steps + 1 {
			for keep := range 6 {
				p := begin(t, 1000)
				p.must(t, opens(), appends("a"), syncsLog(), appends("b"))
				for _, o := range append(slices.Clone(x.ops), fuse(n)) {
					p.must(t, byHand(o))
				}
				if e := p.do(t, x.call); (e == api.ErrOff) != (n < x.steps) {
					t.Fatalf("%v, a fuse of %d: %d", x.call, n, e)
				}
				if p.tree.Read(logPath); p.tree.On() {
					t.Fatalf("%v: there are less than %d steps", x.call, x.steps)
				}
				p.do(t, byHand(mk("a")), byHand(crash(keep, 3, 3, 3)), opens(), opens())
			}
		}
	}
}

// Rule 3: what is passed may be changed afterwards, and is not changed.
func TestMemory(t *testing.T) {
	f := newTree(t, 1000)
	l := yields(t, f)
	b := []byte("abc")
	s := []string{"x", unsafe.String(&b[0], 2), "z", "more"}
	l.Aside(s[:3])
	l.Append(unsafe.String(&b[0], 3))
	if string(b) != "abc" || !slices.Equal(s, []string{"x", "ab", "z", "more"}) {
		t.Errorf("changed to %q, %q", b, s)
	}
	copy(b, "---")
	clear(s)
	l.Append("d")
	yields(t, f, "x", "ab", "z", "abc", "d")
}

// anyOf is a call by chance.
func anyOf(random *rand.Rand) call {
	text := func() string { return strings.Repeat("xyxz", 5)[random.Intn(4):][:random.Intn(10)] }
	switch random.Intn(24) {
	case 0, 1, 2, 3, 4, 5, 6:
		return appends(text())
	case 7, 8, 9:
		return syncsLog()
	case 10, 11, 12:
		c := aside()
		for range random.Intn(4) {
			c.records = append(c.records, text())
		}
		return c
	case 13, 14:
		return byHand(fuse(random.Intn(12) - 1))
	case 15:
		return byHand(add(logPath, framed("hand", "made")[:random.Intn(25)]))
	case 16:
		return byHand(mk(tempPath))
	case 17:
		return byHand(add(tempPath, []byte("temporary")))
	case 18:
		return byHand([]op{remove(logPath), remove(tempPath), write(logPath, framed("by hand")), rename(logPath, tempPath), rename(tempPath, logPath)}[random.Intn(5)])
	case 19, 20:
		return byHand(crash(random.Intn(6), random.Intn(40), random.Intn(40), random.Intn(40)))
	}
	return opens()
}

// P5.2 and P5.3: all calls, in any order, are as the chapter says.
func TestAsTheTwin(t *testing.T) {
	met := map[string]int{}
	for seed := range 1500 {
		random := rand.New(rand.NewSource(int64(seed)))
		p := begin(t, []int{0, 60, 120, 1000}[seed%4])
		for range 120 {
			c := anyOf(random)
			met[c.kind+string(rune('0'+p.do(t, c)))]++
		}
	}
	for _, kind := range []string{"open0", "open4", "open:", "open;", "append0", "append1", "append6", "append:", "append;",
		"sync0", "sync1", "sync6", "sync:", "sync;", "aside0", "aside1", "aside6", "aside:", "aside;"} {
		if met[kind] < 20 {
			t.Errorf("%s was met %d times", kind, met[kind])
		}
	}
}
