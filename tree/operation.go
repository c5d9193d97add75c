package tree

import (
	"bytes"
	"slices"
	"strings"

	"packtrain/api"
	"packtrain/path"
)

// Make makes a file without bytes.
func (t *Tree) Make(path string) api.Errno {
	if e := t.begin(path); e != api.OK {
		return e
	}
	if t.files[path] != nil {
		return api.ErrThere
	}
	path = strings.Clone(path)
	f := &file{}
	t.record(func(files map[string]*file) { files[path] = f })
	f.stamp = t.clock
	return api.OK
}

// Write replaces the bytes of a file.
func (t *Tree) Write(path string, b []byte) api.Errno {
	f, e := t.find(path)
	if e != api.OK {
		return e
	}
	if len(b) > t.left(t.used-len(f.bytes)) {
		return api.ErrFull
	}
	t.put(f, bytes.Clone(b))
	return api.OK
}

// Append appends to the bytes of a file.
func (t *Tree) Append(path string, b []byte) api.Errno {
	f, e := t.find(path)
	if e != api.OK {
		return e
	}
	if len(b) > t.left(t.used) {
		return api.ErrFull
	}
	t.put(f, append(f.bytes, b...))
	return api.OK
}

// Sync makes the bytes of a file safe.
func (t *Tree) Sync(path string) api.Errno {
	f, e := t.find(path)
	if e == api.OK {
		f.safe = f.bytes
	}
	return e
}

// SyncPaths makes all changes of paths safe.
func (t *Tree) SyncPaths() api.Errno {
	e := t.begin()
	if e == api.OK {
		t.settle(len(t.changes))
	}
	return e
}

// Rename gives a file another path; a file that had it is gone.
func (t *Tree) Rename(from, to string) api.Errno {
	f, e := t.find(from, to)
	if e != api.OK || from == to {
		return e
	}
	t.free(to)
	from, to = strings.Clone(from), strings.Clone(to)
	t.record(func(files map[string]*file) {
		delete(files, from)
		files[to] = f
	})
	return api.OK
}

// Remove removes a file.
func (t *Tree) Remove(path string) api.Errno {
	if _, e := t.find(path); e != api.OK {
		return e
	}
	t.free(path)
	path = strings.Clone(path)
	t.record(func(files map[string]*file) { delete(files, path) })
	return api.OK
}

// Read returns the bytes of a file.
func (t *Tree) Read(path string) ([]byte, api.Errno) {
	f, e := t.find(path)
	if e != api.OK {
		return nil, e
	}
	return bytes.Clone(f.bytes), api.OK
}

// find begins an operation with a file, which may name other paths.
func (t *Tree) find(path string, others ...string) (*file, api.Errno) {
	if e := t.begin(append(others, path)...); e != api.OK {
		return nil, e
	}
	f := t.files[path]
	if f == nil {
		return nil, api.ErrNone
	}
	return f, api.OK
}

// begin begins an operation with these paths.
func (t *Tree) begin(paths ...string) api.Errno {
	if !t.valid() {
		return api.ErrNil
	}
	if slices.ContainsFunc(paths, isNoPath) {
		return api.ErrArg
	}
	t.burn()
	if t.off {
		return api.ErrOff
	}
	return api.OK
}

// isNoPath tells whether s is neither a path nor that of a temporary file.
func isNoPath(s string) bool {
	_, isTemp := path.Temped(s)
	return !isTemp && path.Check(s) != api.OK
}

// record does a change of paths, and keeps it for what is safe.
func (t *Tree) record(c change) {
	c(t.files)
	t.changes = append(t.changes, c)
	t.clock++
}

// put gives a file other bytes.
func (t *Tree) put(f *file, b []byte) {
	t.used += len(b) - len(f.bytes)
	t.clock++
	f.bytes, f.stamp = b, t.clock
}

// free gives back the room of the file that has the path, if there is one.
func (t *Tree) free(path string) {
	if f := t.files[path]; f != nil {
		t.used -= len(f.bytes)
	}
}
