package store

import (
	"slices"
	"strings"

	"packtrain/api"
	"packtrain/table"
	"packtrain/wire"
)

// The numbers with which records begin, and those with which the pairs of a
// batch do.
const (
	ofBatch = 1
	ofAll   = 2

	removed = 0
	put     = 1
)

// around is how many bytes a frame has beside its piece.
const around = 8

// Record returns the record of a batch.
func Record(l []api.Pair) (string, api.Errno) {
	if e := check(l); e != api.OK {
		return "", e
	}
	if len(l) > api.MaxBatch {
		return "", api.ErrLong
	}
	return write(ofBatch, lasts(l), change)
}

// All returns the record of everything in a store that contains t.
func All(t table.Table) (string, api.Errno) {
	l := t.Range("", "", t.Size())
	if e := check(l); e != api.OK {
		return "", e
	}
	return write(ofAll, l, entry)
}

// Tell returns the table that t becomes by a record.
func Tell(t table.Table, s string) (table.Table, api.Errno) {
	// Longer ones would be rejected as well, but only after much work.
	if len(s) > api.MaxPiece {
		return table.Table{}, api.ErrBad
	}
	// What is read is written again: if it was not a record, that is another
	// one, or none.
	r := wire.New([]byte(s))
	switch r.Number() {
	case ofBatch:
		l := read(r, readChange)
		if again, e := Record(l); e == api.OK && again == s {
			return contents{t}.after(l).Table, api.OK
		}
	case ofAll:
		all := table.Of(read(r, readEntry))
		if again, e := All(all); e == api.OK && again == s {
			return all, api.OK
		}
	}
	return table.Table{}, api.ErrBad
}

// check returns ErrArg if a key is empty, and otherwise ErrLong if a key or a
// value is too long.
func check(l []api.Pair) api.Errno {
	switch {
	case slices.ContainsFunc(l, isNameless):
		return api.ErrArg
	case slices.ContainsFunc(l, isTooLong):
		return api.ErrLong
	}
	return api.OK
}

// isNameless tells whether the key of a pair is empty.
func isNameless(p api.Pair) bool {
	return p.Key == ""
}

// isTooLong tells whether the key or the value of a pair is too long. A key
// that is removed has no value, whatever its pair says.
func isTooLong(p api.Pair) bool {
	return len(p.Key) > api.MaxKey || !p.Gone && len(p.Value) > api.MaxValue
}

// lasts returns the last pair of each key, ascending.
func lasts(l []api.Pair) []api.Pair {
	l = slices.Clone(l)
	// Of equal ones the first is kept below: so the last must come first.
	slices.Reverse(l)
	slices.SortStableFunc(l, func(a, b api.Pair) int { return strings.Compare(a.Key, b.Key) })
	return slices.CompactFunc(l, func(a, b api.Pair) bool { return a.Key == b.Key })
}

// write returns a record: the number with which it begins, and the list of what
// element writes of each pair.
func write(number uint64, l []api.Pair, element func(api.Pair) []byte) (string, api.Errno) {
	b := wire.Number(wire.Number(nil, number), uint64(len(l)))
	for _, p := range l {
		b = append(b, element(p)...)
		if len(b) > api.MaxPiece {
			return "", api.ErrLong
		}
	}
	return string(b), api.OK
}

// change writes a pair of a batch.
func change(p api.Pair) []byte {
	if p.Gone {
		return pieces(wire.Number(nil, removed), p.Key)
	}
	return pieces(wire.Number(nil, put), p.Key, p.Value)
}

// entry writes a pair of everything.
func entry(p api.Pair) []byte {
	return pieces(nil, p.Key, p.Value)
}

// pieces returns b followed by pieces, none of which is too long for one: keys
// and values are checked before.
func pieces(b []byte, l ...string) []byte {
	for _, p := range l {
		b, _ = wire.Piece(b, p)
	}
	return b
}

// read reads a list of pairs, up to the first error.
func read(r *wire.Reader, element func(*wire.Reader) api.Pair) []api.Pair {
	var l []api.Pair
	// Each pair has bytes: a greater number of pairs can't be right.
	for n := r.Count(r.Left()); n > 0 && r.Err() == api.OK; n-- {
		l = append(l, element(r))
	}
	return l
}

// readChange reads a pair of a batch. A number that means nothing is taken for
// put: it becomes another one when the pair is written again.
func readChange(r *wire.Reader) api.Pair {
	gone := r.Number() == removed
	p := api.Pair{Key: r.Piece(), Gone: gone}
	if !gone {
		p.Value = r.Piece()
	}
	return p
}

// readEntry reads a pair of everything.
func readEntry(r *wire.Reader) api.Pair {
	key := r.Piece()
	return api.Pair{Key: key, Value: r.Piece()}
}
