package wal

import (
	"packtrain/api"
	"packtrain/path"
)

// begin reads the file, or makes it if it is not there, and returns its
// records.
func (l *Log) begin() ([]string, api.Errno) {
	if !l.has(l.path) {
		return nil, l.replace(nil, 0)
	}
	b, e := l.tree.Read(l.path)
	if e != api.OK {
		return nil, e
	}
	s, whole, e := Scan(b)
	if e != api.OK {
		return nil, e
	}
	return s, l.mend(b, whole, len(s))
}

// mend takes away what a replacement or an append that a crash ended left: the
// temporary file, and bytes after those that are whole.
func (l *Log) mend(b []byte, whole, count int) api.Errno {
	if whole < len(b) {
		return l.replace(b[:whole], count)
	}
	l.size, l.count = whole, count
	return l.do(l.clean)
}

// replace puts a file with these bytes in the place of that of the log. It has
// all of them, safe, before it gets the path: so after a crash there is the one
// file or the other.
func (l *Log) replace(b []byte, count int) api.Errno {
	temp := l.temp()
	e := l.do(
		l.clean,
		func() api.Errno { return l.tree.Make(temp) },
		func() api.Errno { return l.tree.Write(temp, b) },
		func() api.Errno { return l.tree.Sync(temp) },
		func() api.Errno { return l.tree.Rename(temp, l.path) },
		l.tree.SyncPaths,
	)
	if e == api.OK {
		l.size, l.count = len(b), count
	}
	return e
}

// clean removes the temporary file, if there is one.
func (l *Log) clean() api.Errno {
	if temp := l.temp(); l.has(temp) {
		return l.tree.Remove(temp)
	}
	return api.OK
}

// temp returns the path of the temporary file.
func (l *Log) temp() string {
	p, _ := path.Temp(l.path)
	return p
}

// has tells whether the tree has a file with the path.
func (l *Log) has(path string) bool {
	_, _, ok := l.tree.Stat(path)
	return ok
}
