package store

import (
	"packtrain/api"
	"packtrain/table"
)

// contents is what a store contains. The table is embedded here, and not in the
// store itself, where it would have the name of the method Table. What it
// promotes changes nothing: it returns another table.
type contents struct {
	table.Table
}

// replay returns what there is after records, of which the first one is done to
// nothing.
func replay(records []string) (contents, api.Errno) {
	var c contents
	for _, s := range records {
		t, e := Tell(c.Table, s)
		if e != api.OK {
			return contents{}, e
		}
		c.Table = t
	}
	return c, api.OK
}

// after returns what there is after a batch.
func (c contents) after(l []api.Pair) contents {
	for _, p := range l {
		if p.Gone {
			c.Table = c.Drop(p.Key)
		} else {
			c.Table = c.Put(p.Key, p.Value)
		}
	}
	return c
}
