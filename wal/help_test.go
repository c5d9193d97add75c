package wal_test

import (
	"bytes"
	"encoding/binary"
	"fmt"
	"hash/adler32"
	"slices"
	"testing"

	"packtrain/api"
	"packtrain/tree"
	"packtrain/wal"
)

// The paths of the log of most tests, and of its temporary file.
const (
	logPath  = "db/log"
	tempPath = ".tmp/db/log"
)

// framed are the frames of records as the chapters say.
func framed(records ...string) []byte {
	var b []byte
	for _, p := range records {
		f := binary.BigEndian.AppendUint32(nil, uint32(len(p)))
		f = append(f, p...)
		b = append(b, binary.BigEndian.AppendUint32(f, adler32.Checksum(f))...)
	}
	return b
}

// scanned is what the chapter says of Scan.
func scanned(b []byte) (records []string, whole int, e api.Errno) {
	for len(b) >= whole+4 {
		size := uint64(binary.BigEndian.Uint32(b[whole:]))
		if size > 1<<20 {
			return records, whole, api.ErrBad
		}
		if uint64(len(b)-whole) < size+8 {
			break
		}
		p := string(b[whole+4 : whole+4+int(size)])
		if !bytes.HasPrefix(b[whole:], framed(p)) {
			return records, whole, api.ErrBad
		}
		records = append(records, p)
		whole += len(p) + 8
	}
	return records, whole, api.OK
}

// twin is a log as the chapter tells it, in a tree of its own, with which the
// log that is tested is compared operation by operation.
type twin struct {
	tree    *tree.Tree
	open    bool
	broken  api.Errno
	records []string
}

// op is an operation of a tree.
type op func(f *tree.Tree) api.Errno

func mk(p string) op              { return func(f *tree.Tree) api.Errno { return f.Make(p) } }
func write(p string, b []byte) op { return func(f *tree.Tree) api.Errno { return f.Write(p, b) } }
func add(p string, b []byte) op   { return func(f *tree.Tree) api.Errno { return f.Append(p, b) } }
func syncs(p string) op           { return func(f *tree.Tree) api.Errno { return f.Sync(p) } }
func syncPaths() op               { return func(f *tree.Tree) api.Errno { return f.SyncPaths() } }
func rename(p, to string) op      { return func(f *tree.Tree) api.Errno { return f.Rename(p, to) } }
func remove(p string) op          { return func(f *tree.Tree) api.Errno { return f.Remove(p) } }
func fuse(n int) op               { return func(f *tree.Tree) api.Errno { return f.Fuse(n) } }
func crash(keep int, parts ...int) op {
	return func(f *tree.Tree) api.Errno { return f.Crash(keep, parts) }
}

// run does operations up to the first one with an error.
func run(f *tree.Tree, ops ...op) api.Errno {
	for _, o := range ops {
		if e := o(f); e != api.OK {
			return e
		}
	}
	return api.OK
}

// replacing are the operations that replace a log.
func (w *twin) replacing(records []string) []op {
	return append(w.cleaning(),
		mk(tempPath), write(tempPath, framed(records...)), syncs(tempPath), rename(tempPath, logPath), syncPaths())
}

// cleaning are those that remove the temporary file.
func (w *twin) cleaning() []op {
	if slices.Contains(w.tree.Paths(""), tempPath) {
		return []op{remove(tempPath)}
	}
	return nil
}

// opened opens the twin.
func (w *twin) opened() ([]string, api.Errno) {
	*w = twin{tree: w.tree}
	records, ops := []string(nil), []op(nil)
	if !slices.Contains(w.tree.Paths(""), logPath) {
		ops = w.replacing(nil)
	} else {
		b, e := w.tree.Read(logPath)
		if e != api.OK {
			return nil, e
		}
		s, whole, e := scanned(b)
		if e != api.OK {
			return nil, e
		}
		records, ops = s, w.cleaning()
		if whole < len(b) {
			ops = w.replacing(records)
		}
	}
	if e := run(w.tree, ops...); e != api.OK {
		return nil, e
	}
	w.open, w.records = true, records
	return records, api.OK
}

// changed is a call of the twin that does these operations, after which it has
// these records.
func (w *twin) changed(records []string, ops ...op) api.Errno {
	switch {
	case !w.open:
		return api.ErrNil
	case slices.ContainsFunc(records, func(p string) bool { return len(p) > api.MaxPiece }):
		return api.ErrLong
	case w.broken != api.OK:
		return w.broken
	}
	if w.broken = run(w.tree, ops...); w.broken == api.OK {
		w.records = records
	}
	return w.broken
}

// call is a call of a log, or of its tree.
type call struct {
	kind    string
	records []string
	op      op
}

func opens() call            { return call{kind: "open"} }
func appends(p string) call  { return call{kind: "append", records: []string{p}} }
func syncsLog() call         { return call{kind: "sync"} }
func aside(s ...string) call { return call{kind: "aside", records: s} }
func byHand(o op) call       { return call{kind: "tree", op: o} }

// onTwin calls a twin.
func (c call) onTwin(w *twin) ([]string, api.Errno) {
	switch c.kind {
	case "open":
		return w.opened()
	case "append":
		return nil, w.changed(append(slices.Clone(w.records), c.records[0]), add(logPath, framed(c.records[0])))
	case "sync":
		return nil, w.changed(w.records, syncs(logPath))
	case "aside":
		return nil, w.changed(c.records, w.replacing(c.records)...)
	}
	return nil, c.op(w.tree)
}

// onLog calls a log in a tree; the one that Open returns takes its place.
func (c call) onLog(f *tree.Tree, l **wal.Log) (s []string, e api.Errno) {
	switch c.kind {
	case "open":
		*l, s, e = wal.Open(f, logPath)
		return s, e
	case "append":
		return nil, (*l).Append(c.records[0])
	case "sync":
		return nil, (*l).Sync()
	case "aside":
		return nil, (*l).Aside(slices.Clone(c.records))
	}
	return nil, c.op(f)
}

// String is the call as a test tells it.
func (c call) String() string {
	if s := fmt.Sprintf("%s %q", c.kind, c.records); len(s) < 200 {
		return s
	}
	return c.kind + " of much"
}

// pair is a log with its twin.
type pair struct {
	tree *tree.Tree
	log  *wal.Log
	twin twin
}

// begin is a pair whose trees have that room.
func begin(t *testing.T, room int) *pair {
	t.Helper()
	return &pair{tree: newTree(t, room), twin: twin{tree: newTree(t, room)}}
}

func newTree(t *testing.T, room int) *tree.Tree {
	t.Helper()
	f, e := tree.New(room)
	if e != api.OK {
		t.Fatalf("New(%d): %d", room, e)
	}
	return f
}

// do makes calls of both, and compares what they answer and are.
func (p *pair) do(t *testing.T, calls ...call) (e api.Errno) {
	t.Helper()
	for _, c := range calls {
		want, wantE := c.onTwin(&p.twin)
		var s []string
		s, e = c.onLog(p.tree, &p.log)
		if e != wantE || !slices.Equal(s, want) || (p.log != nil) != p.twin.open {
			t.Fatalf("%v: %q, %d, not %q, %d", c, s, e, want, wantE)
		}
		if got, want := look(p.tree), look(p.twin.tree); got != want {
			t.Fatalf("%v: the tree is %s, not %s", c, got, want)
		}
		if size := len(framed(p.twin.records...)); p.log.Size() != size || p.log.Count() != len(p.twin.records) {
			t.Fatalf("%v: %d bytes and %d records, not %d and %d", c, p.log.Size(), p.log.Count(), size, len(p.twin.records))
		}
	}
	return e
}

// must makes calls of both, of which none may fail.
func (p *pair) must(t *testing.T, calls ...call) {
	t.Helper()
	for _, c := range calls {
		if e := p.do(t, c); e != api.OK {
			t.Fatalf("%v: %d", c, e)
		}
	}
}

// fails makes a call of both, which returns an error and does nothing.
func (p *pair) fails(t *testing.T, c call, want api.Errno) {
	t.Helper()
	before := look(p.tree)
	if e := p.do(t, c); e != want {
		t.Errorf("%v: %d, not %d", c, e, want)
	}
	if after := look(p.tree); after != before {
		t.Errorf("%v: the tree is %s after %s", c, after, before)
	}
}

// look is all that a tree tells without an operation.
func look(f *tree.Tree) string {
	s := fmt.Sprint(f.Left(), f.Clock(), f.On())
	for _, p := range f.Paths("") {
		size, stamp, ok := f.Stat(p)
		s += fmt.Sprint("; ", p, size, stamp, ok)
	}
	for _, x := range f.Safe() {
		s += fmt.Sprintf("; safe %s %d %x", x.Path, len(x.Bytes), x.Bytes[:min(len(x.Bytes), 200)])
	}
	return s
}

// yields opens the log of a tree, which has these records.
func yields(t *testing.T, f *tree.Tree, want ...string) *wal.Log {
	t.Helper()
	l, s, e := wal.Open(f, logPath)
	if e != api.OK || !slices.Equal(s, want) {
		t.Fatalf("Open: %q, %d, not %q", s, e, want)
	}
	return l
}

// with is a tree in which the file of the log has these bytes, safe.
func with(t *testing.T, b []byte) *tree.Tree {
	t.Helper()
	f := newTree(t, api.MaxRoom)
	if e := run(f, mk(logPath), write(logPath, b), syncs(logPath), syncPaths()); e != api.OK {
		t.Fatal(e)
	}
	return f
}

// has checks the bytes of a file.
func has(t *testing.T, f *tree.Tree, p string, want []byte) {
	t.Helper()
	if b, e := f.Read(p); e != api.OK || !bytes.Equal(b, want) {
		t.Errorf("%q has %x (%d), not %x", p, b, e, want)
	}
}

// hasPaths checks which files there are.
func hasPaths(t *testing.T, f *tree.Tree, want ...string) {
	t.Helper()
	if got := f.Paths(""); !slices.Equal(got, want) {
		t.Errorf("there are %q, not %q", got, want)
	}
}
