package tree

import (
	"bytes"
	"maps"
	"strings"

	"packtrain/api"
)

// noFuse is a fuse that never blows.
const noFuse = -1

// Fuse sets a fuse that blows at the operation after n further ones, and
// removes it if n is below 0.
func (t *Tree) Fuse(n int) api.Errno {
	if !t.valid() {
		return api.ErrNil
	}
	t.fuse = max(n, noFuse)
	return api.OK
}

// Crash crashes the tree. Of the changes of paths the first keep ones remain;
// parts says for one file after another how many of the bytes after its safe
// ones do.
func (t *Tree) Crash(keep int, parts []int) api.Errno {
	if !t.valid() {
		return api.ErrNil
	}
	t.clock++
	t.settle(upTo(keep, len(t.changes)))
	before := t.files
	t.files, t.used = maps.Clone(t.safe), 0
	for i, p := range sorted(t.files) {
		t.restore(p, before[p], at(parts, i))
	}
	t.fuse, t.off = noFuse, false
	return api.OK
}

// Safe returns the files that are safe, with their safe bytes, ascending.
func (t *Tree) Safe() []api.File {
	if !t.valid() {
		return nil
	}
	var all []api.File
	for _, p := range sorted(t.safe) {
		all = append(all, api.File{Path: strings.Clone(p), Bytes: bytes.Clone(t.safe[p].safe)})
	}
	return all
}

// settle does the first n changes of paths to what is safe, and drops the
// others.
func (t *Tree) settle(n int) {
	for _, c := range t.changes[:n] {
		c(t.safe)
	}
	t.changes = nil
}

// restore gives the file at the path the bytes that a crash leaves it, and
// another stamp unless it had the path before the crash, and these bytes.
func (t *Tree) restore(path string, before *file, part int) {
	f := t.files[path]
	b := f.remaining(part)
	if f != before || !bytes.Equal(b, f.bytes) {
		t.clock++
		f.stamp = t.clock
	}
	f.bytes, f.safe = b, b
	t.used += len(b)
}

// burn counts an operation, at which the fuse may blow.
func (t *Tree) burn() {
	if t.fuse == 0 {
		t.off = true
	}
	t.fuse = max(t.fuse-1, noFuse)
}

// at returns the element of parts with the index i, and 0 after the last one.
func at(parts []int, i int) int {
	if i < len(parts) {
		return parts[i]
	}
	return 0
}
