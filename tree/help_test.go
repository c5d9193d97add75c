package tree_test

import (
	"fmt"
	"maps"
	"math/rand"
	"regexp"
	"slices"
	"strings"
	"testing"

	"packtrain/api"
	"packtrain/tree"
)

var aTreePath = regexp.MustCompile(`\A(\.tmp/)?[a-z0-9_-][a-z0-9._-]{0,23}(/[a-z0-9_-][a-z0-9._-]{0,23}){0,3}\z`)

// isTreePath is what the chapter allows as a path in a tree.
func isTreePath(s string) bool {
	return len(strings.TrimPrefix(s, ".tmp/")) <= 64 && aTreePath.MatchString(s)
}

// model is a tree as the chapter tells it: each file has a number, and after
// each change of paths all of them are written down anew, so that a crash takes
// one of these states.
type model struct {
	room, fuse int
	off        bool
	clock      uint64
	states     []map[string]int // the first one is safe, the last one holds now
	bytes      map[int]string
	safe       map[int]string
	stamps     map[int]uint64
}

func newModel(room int) *model {
	return &model{room: room, fuse: -1, states: []map[string]int{{}},
		bytes: map[int]string{}, safe: map[int]string{}, stamps: map[int]uint64{}}
}

// now is the number of the file of each path.
func (m *model) now() map[string]int {
	return m.states[len(m.states)-1]
}

// used is how many bytes all files but one have.
func (m *model) used(but int) (sum int) {
	for _, n := range m.now() {
		if n != but {
			sum += len(m.bytes[n])
		}
	}
	return sum
}

// change writes down other paths.
func (m *model) change(paths map[string]int) {
	m.states = append(m.states, paths)
	m.clock++
}

// put gives a file other bytes.
func (m *model) put(n int, b string) {
	m.clock++
	m.bytes[n], m.stamps[n] = b, m.clock
}

// do is an operation on the model; read is for one that reads.
func (m *model) do(c call) (read string, e api.Errno) {
	for _, p := range c.paths() {
		if !isTreePath(p) {
			return "", api.ErrArg
		}
	}
	if m.off {
		return "", api.ErrOff
	}
	if m.fuse == 0 {
		m.off = true
		return "", api.ErrOff
	}
	if m.fuse > 0 {
		m.fuse--
	}
	n, there := m.now()[c.path]
	if c.kind == "make" && there {
		return "", api.ErrThere
	}
	if c.kind != "make" && c.kind != "syncpaths" && !there {
		return "", api.ErrNone
	}
	return m.done(c, n)
}

// done is an operation on the file n, which is there.
func (m *model) done(c call, n int) (read string, e api.Errno) {
	paths := maps.Clone(m.now())
	switch c.kind {
	case "make":
		n = 1 + len(m.stamps)
		paths[c.path] = n
		m.change(paths)
		m.stamps[n] = m.clock
	case "write":
		if len(c.bytes) > max(0, m.room-m.used(n)) {
			return "", api.ErrFull
		}
		m.put(n, c.bytes)
	case "append":
		if len(c.bytes) > max(0, m.room-m.used(0)) {
			return "", api.ErrFull
		}
		m.put(n, m.bytes[n]+c.bytes)
	case "sync":
		m.safe[n] = m.bytes[n]
	case "syncpaths":
		m.states = []map[string]int{m.now()}
	case "rename":
		if c.path != c.to {
			delete(paths, c.path)
			paths[c.to] = n
			m.change(paths)
		}
	case "remove":
		delete(paths, c.path)
		m.change(paths)
	case "read":
		return m.bytes[n], api.OK
	}
	return "", api.OK
}

// crash is a crash of the model.
func (m *model) crash(keep int, parts []int) {
	m.clock++
	now, paths := m.now(), m.states[max(keep, 0)%len(m.states)]
	for i, p := range slices.Sorted(maps.Keys(paths)) {
		n := paths[p]
		b := m.safe[n]
		if more, ok := strings.CutPrefix(m.bytes[n], b); ok && i < len(parts) && parts[i] > 0 {
			b += more[:parts[i]%(len(more)+1)]
		}
		if old, ok := now[p]; !ok || old != n || b != m.bytes[n] {
			m.put(n, b)
		}
		m.safe[n] = b
	}
	m.states, m.off, m.fuse = []map[string]int{paths}, false, -1
}

// call is a call of a tree.
type call struct {
	kind     string
	path, to string
	bytes    string
	n        int // of a fuse, or how many changes a crash keeps
	parts    []int
}

// paths are those with which the operation is called.
func (c call) paths() []string {
	switch c.kind {
	case "syncpaths":
		return nil
	case "rename":
		return []string{c.path, c.to}
	}
	return []string{c.path}
}

// short forms of calls
func mk(p string) call         { return call{kind: "make", path: p} }
func write(p, b string) call   { return call{kind: "write", path: p, bytes: b} }
func add(p, b string) call     { return call{kind: "append", path: p, bytes: b} }
func syncs(p string) call      { return call{kind: "sync", path: p} }
func syncPaths() call          { return call{kind: "syncpaths"} }
func rename(p, to string) call { return call{kind: "rename", path: p, to: to} }
func remove(p string) call     { return call{kind: "remove", path: p} }
func read(p string) call       { return call{kind: "read", path: p} }
func fuse(n int) call          { return call{kind: "fuse", n: n} }
func crash(keep int, parts ...int) call {
	return call{kind: "crash", n: keep, parts: parts}
}

// onTree calls a tree.
func (c call) onTree(t *tree.Tree) (b []byte, e api.Errno) {
	switch c.kind {
	case "make":
		e = t.Make(c.path)
	case "write":
		e = t.Write(c.path, []byte(c.bytes))
	case "append":
		e = t.Append(c.path, []byte(c.bytes))
	case "sync":
		e = t.Sync(c.path)
	case "syncpaths":
		e = t.SyncPaths()
	case "rename":
		e = t.Rename(c.path, c.to)
	case "remove":
		e = t.Remove(c.path)
	case "read":
		b, e = t.Read(c.path)
	case "fuse":
		e = t.Fuse(c.n)
	case "crash":
		e = t.Crash(c.n, slices.Clone(c.parts))
	default:
		panic(c.kind)
	}
	return b, e
}

// onModel calls a model.
func (c call) onModel(m *model) (string, api.Errno) {
	switch c.kind {
	case "fuse":
		m.fuse = max(c.n, -1)
		return "", api.OK
	case "crash":
		m.crash(c.n, c.parts)
		return "", api.OK
	}
	return m.do(c)
}

// both calls a tree and its model, and compares what they answer and are.
func both(t *testing.T, f *tree.Tree, m *model, c call) api.Errno {
	t.Helper()
	want, e := c.onModel(m)
	b, got := c.onTree(f)
	if got != e || string(b) != want {
		t.Fatalf("%+v: %q, %d, not %q, %d", c, b, got, want, e)
	}
	m.check(t, f, c)
	return e
}

// check compares a tree with its model, without an operation.
func (m *model) check(t *testing.T, f *tree.Tree, after call) {
	t.Helper()
	paths := slices.Sorted(maps.Keys(m.now()))
	if got := f.Paths(""); !slices.Equal(got, paths) {
		t.Fatalf("after %+v: paths %q, not %q", after, got, paths)
	}
	for _, p := range append(paths, after.path, after.to, "", "no/such") {
		n, there := m.now()[p]
		size, stamp, ok := f.Stat(p)
		if ok != there || size != len(m.bytes[n]) || stamp != m.stamps[n] {
			t.Fatalf("after %+v: %q has %d bytes and the stamp %d (%v), not %d and %d (%v)",
				after, p, size, stamp, ok, len(m.bytes[n]), m.stamps[n], there)
		}
	}
	if f.Left() != max(0, m.room-m.used(0)) || f.Clock() != m.clock || f.On() == m.off {
		t.Fatalf("after %+v: left %d, clock %d, on %v", after, f.Left(), f.Clock(), f.On())
	}
	m.checkSafe(t, f, after)
}

// checkSafe compares what is safe.
func (m *model) checkSafe(t *testing.T, f *tree.Tree, after call) {
	t.Helper()
	var want []api.File
	for _, p := range slices.Sorted(maps.Keys(m.states[0])) {
		want = append(want, api.File{Path: p, Bytes: []byte(m.safe[m.states[0][p]])})
	}
	if got := f.Safe(); !slices.EqualFunc(got, want, sameFile) {
		t.Fatalf("after %+v: %q is safe, not %q", after, got, want)
	}
}

// checkBytes reads all files, for which the tree must be on, without a fuse.
func (m *model) checkBytes(t *testing.T, f *tree.Tree) {
	t.Helper()
	for p, n := range m.now() {
		if b, e := f.Read(p); e != api.OK || string(b) != m.bytes[n] {
			t.Fatalf("%q has %q (%d), not %q", p, b, e, m.bytes[n])
		}
	}
}

func sameFile(a, b api.File) bool {
	return a.Path == b.Path && string(a.Bytes) == string(b.Bytes)
}

// begin is a tree with its model.
func begin(t *testing.T, room int) (*tree.Tree, *model) {
	t.Helper()
	f, e := tree.New(room)
	if e != api.OK {
		t.Fatalf("New(%d): %d", room, e)
	}
	return f, newModel(room)
}

// run calls a tree and its model.
func run(t *testing.T, f *tree.Tree, m *model, calls ...call) {
	t.Helper()
	for _, c := range calls {
		both(t, f, m, c)
	}
}

// must calls a tree, where no call may fail.
func must(t *testing.T, f *tree.Tree, calls ...call) {
	t.Helper()
	for _, c := range calls {
		if _, e := c.onTree(f); e != api.OK {
			t.Fatalf("%+v: %d", c, e)
		}
	}
}

// has checks the bytes of a file.
func has(t *testing.T, f *tree.Tree, p, want string) {
	t.Helper()
	if b, e := f.Read(p); e != api.OK || string(b) != want {
		t.Errorf("%q has %q (%d), not %q", p, b, e, want)
	}
}

// stamped checks the size and the stamp of a file.
func stamped(t *testing.T, f *tree.Tree, p string, size int, stamp uint64) {
	t.Helper()
	if n, s, ok := f.Stat(p); n != size || s != stamp || !ok {
		t.Errorf("%q has %d bytes and the stamp %d (%v), not %d and %d", p, n, s, ok, size, stamp)
	}
}

// fails checks that a call returns an error, and changes nothing.
func fails(t *testing.T, f *tree.Tree, c call, want api.Errno) {
	t.Helper()
	before := look(f)
	if b, e := c.onTree(f); e != want || b != nil {
		t.Errorf("%+v: %q, %d, not %d", c, b, e, want)
	}
	if after := look(f); after != before {
		t.Errorf("%+v: it is %q after %q", c, after, before)
	}
}

// look is all that a tree tells without an operation.
func look(f *tree.Tree) string {
	s := fmt.Sprint(f.Left(), f.Clock(), f.On())
	for _, p := range f.Paths("") {
		size, stamp, ok := f.Stat(p)
		s += fmt.Sprint("; ", p, size, stamp, ok)
	}
	return s + fmt.Sprintf(" safe: %q", f.Safe())
}

// whichPaths are few, so that files meet at them.
func whichPaths() []string {
	return []string{"a", "b", "a/b", "ab", ".tmp/a", ".tmp/b", "c.txt"}
}

// wrongPaths are neither paths nor such of temporary files.
func wrongPaths() []string {
	return []string{"", ".", "/", "a/", "/a", "a//b", ".tmp", ".tmp/", ".tmp/.tmp/a", ".a", "A", "a b", "a/b/c/d/e", "a\x00",
		strings.Repeat("a", 25), ".tmp/" + strings.Repeat("a/", 3) + strings.Repeat("a", 25)}
}

// anyCall is a call by chance, in which errors are frequent.
func anyCall(random *rand.Rand) call {
	p := func() string {
		if random.Intn(40) == 0 {
			return wrongPaths()[random.Intn(len(wrongPaths()))]
		}
		return whichPaths()[random.Intn(len(whichPaths()))]
	}
	text := func() string { return strings.Repeat("xyxz", 3)[random.Intn(4):][:random.Intn(8)] }
	switch random.Intn(20) {
	case 0, 1, 2:
		return mk(p())
	case 3, 4, 5:
		return write(p(), text())
	case 6, 7, 8:
		return add(p(), text())
	case 9, 10, 11:
		return syncs(p())
	case 12:
		return syncPaths()
	case 13, 14, 15:
		return rename(p(), p())
	case 16:
		return remove(p())
	case 17:
		return read(p())
	case 18:
		return fuse(random.Intn(24) - 4)
	}
	var parts []int
	for range random.Intn(6) {
		parts = append(parts, random.Intn(12)-2)
	}
	return crash(random.Intn(24)-2, parts...)
}
