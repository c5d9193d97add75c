package store_test

import (
	"fmt"
	"maps"
	"slices"
	"strings"
	"testing"

	"packtrain/api"
	"packtrain/store"
	"packtrain/table"
	"packtrain/tree"
	"packtrain/wal"
)

// The paths of the log of most tests, and of its temporary file.
const (
	logPath  = "db/log"
	tempPath = ".tmp/db/log"
)

// put is a pair with a value.
func put(key, value string) api.Pair {
	return api.Pair{Key: key, Value: value}
}

// gone is a pair of a key that is removed.
func gone(key string) api.Pair {
	return api.Pair{Key: key, Gone: true}
}

// xs is so many bytes.
func xs(n int) string {
	return strings.Repeat("x", n)
}

// short is the beginning of what there may be much of.
func short(x any) string {
	s := fmt.Sprint(x)
	return s[:min(len(s), 200)]
}

// keys are so many keys, ascending.
func keys(n int) []string {
	var all []string
	for i := range n {
		all = append(all, fmt.Sprintf("%04d", i))
	}
	return all
}

// puts puts a value at each key.
func puts(keys []string, value string) []api.Pair {
	var l []api.Pair
	for _, k := range keys {
		l = append(l, put(k, value))
	}
	return l
}

// number is a number as chapter 1 says.
func number(x int) string {
	s := string([]byte{byte(x % 128)})
	for x /= 128; x > 0; x /= 128 {
		s = string([]byte{128 + byte(x%128)}) + s
	}
	return s
}

// piece is a piece as chapter 1 says.
func piece(p string) string {
	return number(len(p)) + p
}

// model is a store as the chapter tells it.
type model map[string]string

// after is m after a batch.
func (m model) after(l ...api.Pair) model {
	m = maps.Clone(m)
	for _, p := range l {
		if delete(m, p.Key); !p.Gone {
			m[p.Key] = p.Value
		}
	}
	return m
}

// pairs are those of m, ascending.
func (m model) pairs() []api.Pair {
	var l []api.Pair
	for _, k := range slices.Sorted(maps.Keys(m)) {
		l = append(l, put(k, m[k]))
	}
	return l
}

// recordOf is the record of a batch, whether it is valid or not.
func recordOf(l ...api.Pair) string {
	last := map[string]api.Pair{}
	for _, p := range l {
		last[p.Key] = p
	}
	s := []string{number(1), number(len(last))}
	for _, k := range slices.Sorted(maps.Keys(last)) {
		if last[k].Gone {
			s = append(s, number(0), piece(k))
		} else {
			s = append(s, number(1), piece(k), piece(last[k].Value))
		}
	}
	return strings.Join(s, "")
}

// all is the record of everything, whether there is one or not.
func (m model) all() string {
	s := []string{number(2), number(len(m))}
	for _, p := range m.pairs() {
		s = append(s, piece(p.Key), piece(p.Value))
	}
	return strings.Join(s, "")
}

// fault is the error of these pairs, and of a record of so many bytes.
func fault(l []api.Pair, size int) api.Errno {
	e := api.OK
	for _, p := range l {
		switch {
		case p.Key == "":
			return api.ErrArg
		case len(p.Key) > 512 || len(p.Value) > 1<<16 && !p.Gone || size > 1<<20:
			e = api.ErrLong
		}
	}
	return e
}

// recorded is what Record returns.
func recorded(l []api.Pair) (string, api.Errno) {
	s := recordOf(l...)
	e := fault(l, len(s))
	if e == api.OK && len(l) > 4096 {
		e = api.ErrLong
	}
	if e != api.OK {
		s = ""
	}
	return s, e
}

// recordedAll is what All returns.
func (m model) recordedAll() (string, api.Errno) {
	s := m.all()
	if e := fault(m.pairs(), len(s)); e != api.OK {
		return "", e
	}
	return s, api.OK
}

// strict are bytes that are read, up to the first one that is wrong.
type strict struct {
	rest string
	ok   bool
}

// wrong gives up.
func (x *strict) wrong() {
	x.rest, x.ok = "", false
}

// number reads a number; none that a record may have is above 2^20.
func (x *strict) number() int {
	n := 0
	for i, c := range []byte(x.rest) {
		if n = n*128 + int(c%128); n > 1<<20 || i == 0 && c == 128 {
			break
		}
		if c < 128 {
			x.rest = x.rest[i+1:]
			return n
		}
	}
	x.wrong()
	return 0
}

// piece reads a piece of at most that many bytes.
func (x *strict) piece(most int) string {
	n := x.number()
	if n > min(most, len(x.rest)) {
		x.wrong()
		return ""
	}
	p := x.rest[:n]
	x.rest = x.rest[n:]
	return p
}

// told is what m becomes by a record, and whether it is one.
func (m model) told(s string) (model, bool) {
	x := &strict{s, len(s) <= 1<<20}
	kind, count := x.number(), x.number()
	m = maps.Clone(m)
	switch {
	case kind == 2:
		m = model{}
	case kind != 1 || count > 4096:
		x.wrong()
	}
	last := ""
	for i := 0; i < count && x.ok; i++ {
		puts := kind
		if kind == 1 {
			puts = x.number()
		}
		k := x.piece(512)
		if k <= last || puts > kind {
			x.wrong()
		}
		last = k
		if delete(m, k); puts > 0 {
			m[k] = x.piece(1 << 16)
		}
	}
	return m, x.ok && x.rest == ""
}

// twin is a store as the chapter tells it, over a log in a tree of its own, with
// which the store that is tested is compared call by call.
type twin struct {
	tree *tree.Tree
	log  *wal.Log
	grow int
	has  model
}

// open opens the twin.
func (w *twin) open(p string, grow int) (e api.Errno) {
	*w = twin{tree: w.tree, grow: grow, has: model{}}
	if grow < 0 {
		return api.ErrArg
	}
	log, records, e := wal.Open(w.tree, p)
	ok := true
	for _, s := range records {
		if w.has, ok = w.has.told(s); !ok {
			w.has = model{}
			return api.ErrBad
		}
	}
	w.log = log
	return e
}

// batch does a batch.
func (w *twin) batch(l []api.Pair) api.Errno {
	if w.log == nil {
		return api.ErrNil
	}
	s, e := recorded(l)
	if e != api.OK {
		return e
	}
	if all, e := w.has.recordedAll(); e == api.OK && w.log.Size() > w.grow && w.log.Size() > 2*(4+len(all)+4) {
		if e := w.log.Aside([]string{all}); e != api.OK {
			return e
		}
	}
	if e := w.log.Append(s); e != api.OK {
		return e
	}
	if e := w.log.Sync(); e != api.OK {
		return e
	}
	w.has = w.has.after(l...)
	return api.OK
}

// order compacts the twin.
func (w *twin) order() api.Errno {
	if w.log == nil {
		return api.ErrNil
	}
	all, e := w.has.recordedAll()
	if e != api.OK {
		return e
	}
	return w.log.Aside([]string{all})
}

// call is a call of a store, or of its tree.
type call struct {
	kind  string
	path  string
	grow  int
	batch []api.Pair
	op    func(f *tree.Tree) api.Errno
}

func opens(grow int) call                         { return call{kind: "open", path: logPath, grow: grow} }
func batch(l ...api.Pair) call                    { return call{kind: "batch", batch: l} }
func order() call                                 { return call{kind: "order"} }
func onTree(op func(f *tree.Tree) api.Errno) call { return call{kind: "tree", op: op} }
func fuse(n int) call                             { return onTree(func(f *tree.Tree) api.Errno { return f.Fuse(n) }) }
func crash(keep int, parts ...int) call {
	return onTree(func(f *tree.Tree) api.Errno { return f.Crash(keep, parts) })
}

// onTwin calls a twin.
func (c call) onTwin(w *twin) api.Errno {
	switch c.kind {
	case "open":
		return w.open(c.path, c.grow)
	case "batch":
		return w.batch(c.batch)
	case "order":
		return w.order()
	}
	return c.op(w.tree)
}

// onStore calls a store in a tree; the one that Open returns takes its place.
func (c call) onStore(f *tree.Tree, s **store.Store) (e api.Errno) {
	switch c.kind {
	case "open":
		*s, e = store.Open(f, c.path, c.grow)
		return e
	case "batch":
		return (*s).Batch(slices.Clone(c.batch))
	case "order":
		return (*s).Order()
	}
	return c.op(f)
}

// String is the call as a test tells it.
func (c call) String() string {
	return c.kind + " " + short(c.batch)
}

// both is a store with its twin.
type both struct {
	tree  *tree.Tree
	store *store.Store
	twin  twin
}

// begin is a store that is not opened, whose tree and whose twin's have that
// room.
func begin(t *testing.T, room int) *both {
	t.Helper()
	return &both{tree: newTree(t, room), twin: twin{tree: newTree(t, room)}}
}

func newTree(t *testing.T, room int) *tree.Tree {
	t.Helper()
	f, e := tree.New(room)
	if e != api.OK {
		t.Fatalf("New(%d): %d", room, e)
	}
	return f
}

// do makes calls of both, and compares what they return and are.
func (b *both) do(t *testing.T, calls ...call) (e api.Errno) {
	t.Helper()
	for _, c := range calls {
		want := c.onTwin(&b.twin)
		e = c.onStore(b.tree, &b.store)
		if e != want || (b.store != nil) != (b.twin.log != nil) {
			t.Fatalf("%v: %d, not %d", c, e, want)
		}
		if got, want := look(b.tree), look(b.twin.tree); got != want {
			t.Fatalf("%v: the tree is %s, not %s", c, got, want)
		}
		if b.store.Size() != b.twin.log.Size() {
			t.Fatalf("%v: the log has %d bytes, not %d", c, b.store.Size(), b.twin.log.Size())
		}
		contains(t, b.store, b.twin.has)
	}
	return e
}

// must makes calls of both, of which none may fail.
func (b *both) must(t *testing.T, calls ...call) {
	t.Helper()
	for _, c := range calls {
		if e := b.do(t, c); e != api.OK {
			t.Fatalf("%v: %d", c, e)
		}
	}
}

// fails makes a call of both, which returns an error and does nothing.
func (b *both) fails(t *testing.T, c call, want api.Errno) {
	t.Helper()
	before := look(b.tree)
	if e := b.do(t, c); e != want {
		t.Errorf("%v: %d, not %d", c, e, want)
	}
	if after := look(b.tree); after != before {
		t.Errorf("%v: the tree is %s after %s", c, after, before)
	}
}

// contains checks all that a store says of what it contains.
func contains(t *testing.T, s *store.Store, want model) {
	t.Helper()
	pairs := want.pairs()
	if got := s.Range("", "", len(want)+1); !slices.Equal(got, pairs) {
		t.Fatalf("it contains %s, not %s", short(got), short(pairs))
	}
	for _, p := range pairs {
		if v, ok := s.Get(p.Key); v != p.Value || !ok {
			t.Fatalf("Get(%q): %.200q, %t", p.Key, v, ok)
		}
		if v, ok := s.Get(p.Key + "\x00"); v != want[p.Key+"\x00"] || ok != want.has(p.Key+"\x00") {
			t.Fatalf("Get(%q): %.200q, %t", p.Key+"\x00", v, ok)
		}
	}
	is(t, s.Table(), want)
}

// has tells whether m has a key.
func (m model) has(key string) bool {
	_, ok := m[key]
	return ok
}

// is checks a table.
func is(t *testing.T, got table.Table, want model) {
	t.Helper()
	if want := table.Of(want.pairs()); !slices.Equal(got.Nodes(), want.Nodes()) {
		t.Fatalf("the table has %s, not %s", short(got.Nodes()), short(want.Nodes()))
	}
}

// look is all that a tree tells without an operation.
func look(f *tree.Tree) string {
	s := fmt.Sprint(f.Left(), f.Clock(), f.On())
	for _, p := range f.Paths("") {
		size, stamp, _ := f.Stat(p)
		s += fmt.Sprint("; ", p, " ", size, stamp)
	}
	for _, x := range f.Safe() {
		s += fmt.Sprintf("; safe %s %d %x", x.Path, len(x.Bytes), x.Bytes[:min(len(x.Bytes), 500)])
	}
	return s
}

// yields opens the store of a tree, which contains this.
func yields(t *testing.T, f *tree.Tree, want model) *store.Store {
	t.Helper()
	s, e := store.Open(f, logPath, 1000)
	if e != api.OK {
		t.Fatalf("Open: %d", e)
	}
	contains(t, s, want)
	return s
}

// logged is a tree with a log of these records.
func logged(t *testing.T, records ...string) *tree.Tree {
	t.Helper()
	f := newTree(t, api.MaxRoom)
	l, _, _ := wal.Open(f, logPath)
	if e := l.Aside(records); e != api.OK {
		t.Fatal(e)
	}
	return f
}

// records are those of the log of a tree.
func records(t *testing.T, f *tree.Tree) []string {
	t.Helper()
	b, _ := f.Read(logPath)
	s, whole, e := wal.Scan(b)
	if e != api.OK || whole < len(b) {
		t.Fatalf("%d of %d bytes are records: %d", whole, len(b), e)
	}
	return s
}
