package table_test

import (
	"fmt"
	"hash/fnv"
	"maps"
	"math"
	"math/rand"
	"slices"
	"strings"
	"sync"
	"testing"
	"unsafe"

	"packtrain/api"
	"packtrain/table"
)

// rank is the rank of a key, by the library.
func rank(key string) uint32 {
	h := fnv.New32a()
	h.Write([]byte(key))
	return h.Sum32()
}

// put is a pair with a value.
func put(key, value string) api.Pair {
	return api.Pair{Key: key, Value: value}
}

// gone is a pair of a key that is removed.
func gone(key string) api.Pair {
	return api.Pair{Key: key, Gone: true}
}

// model is a table as the chapter tells it.
type model map[string]string

// with is m with a value at a key.
func (m model) with(key, value string) model {
	m = maps.Clone(m)
	m[key] = value
	return m
}

// without is m without a key.
func (m model) without(key string) model {
	m = maps.Clone(m)
	delete(m, key)
	return m
}

// keys are those of m for which it is true, ascending.
func (m model) keys(meant func(key string) bool) []string {
	var all []string
	for k := range m {
		if meant(k) {
			all = append(all, k)
		}
	}
	slices.Sort(all)
	return all
}

// pairs are those of some keys.
func (m model) pairs(keys []string) []api.Pair {
	var l []api.Pair
	for _, k := range keys {
		l = append(l, put(k, m[k]))
	}
	return l
}

// all are all keys of m, ascending.
func (m model) all() []string {
	return m.keys(func(string) bool { return true })
}

// between is what Range returns.
func (m model) between(from, to string, most int) []api.Pair {
	keys := m.keys(func(k string) bool { return k >= from && (to == "" || k < to) })
	return m.pairs(keys[:min(len(keys), max(most, 0))])
}

// cut is what Cut returns, each as keys.
func (m model) cut(key string) (below, others []string) {
	return m.keys(func(k string) bool { return k < key }), m.keys(func(k string) bool { return k >= key })
}

// changes is what Changes returns.
func (m model) changes(to model) []api.Pair {
	both := maps.Clone(m)
	maps.Copy(both, to)
	var l []api.Pair
	for _, k := range both.all() {
		value, has := to[k]
		before, had := m[k]
		switch {
		case !has:
			l = append(l, gone(k))
		case !had || before != value:
			l = append(l, put(k, value))
		}
	}
	return l
}

// nodes are the pairs of ascending keys as Nodes tells them: on top is one of
// the greatest rank, the smallest of these.
func (m model) nodes(keys []string) []api.Pair {
	if len(keys) == 0 {
		return nil
	}
	top := 0
	for i, k := range keys {
		if rank(k) > rank(keys[top]) {
			top = i
		}
	}
	l := m.pairs(keys[top : top+1])
	l = append(l, m.nodes(keys[:top])...)
	return append(l, m.nodes(keys[top+1:])...)
}

// of is the table of m, put in any order.
func (m model) of(random *rand.Rand) table.Table {
	l := m.pairs(m.all())
	random.Shuffle(len(l), func(i, j int) { l[i], l[j] = l[j], l[i] })
	return table.Of(l)
}

// same compares pairs; nil and empty are the same.
func same(t *testing.T, what string, got, want []api.Pair) {
	t.Helper()
	if !slices.Equal(got, want) {
		t.Fatalf("%s: %.500s, not %.500s", what, fmt.Sprintf("%+v", got), fmt.Sprintf("%+v", want))
	}
}

// is checks that a table is what m is: all pairs, and the tree.
func is(t *testing.T, what string, x table.Table, m model) {
	t.Helper()
	keys := m.all()
	same(t, "all of "+what, x.Range("", "", math.MaxInt), m.pairs(keys))
	same(t, "Nodes of "+what, x.Nodes(), m.nodes(keys))
	if x.Size() != len(m) {
		t.Fatalf("%s has the size %d, not %d", what, x.Size(), len(m))
	}
}

// answers checks what a table says of each of these keys, be it there or not.
func answers(t *testing.T, x table.Table, m model, keys []string) {
	t.Helper()
	for _, k := range keys {
		value, has := m[k]
		if got, ok := x.Get(k); got != value || ok != has {
			t.Fatalf("Get(%q): %q, %t, not %q, %t", k, got, ok, value, has)
		}
		below, others := m.cut(k)
		if got := x.Place(k); got != len(below) {
			t.Fatalf("Place(%q): %d, not %d", k, got, len(below))
		}
		above := slices.DeleteFunc(slices.Clone(others), func(o string) bool { return o == k })
		var want api.Pair
		if len(above) > 0 {
			want = put(above[0], m[above[0]])
		}
		if got, ok := x.Next(k); got != want || ok != (len(above) > 0) {
			t.Fatalf("Next(%q): %+v, %t, not %+v", k, got, ok, want)
		}
	}
}

// tail are the last bytes of a key, by the rank before them.
type tail map[uint32][2]byte

// tailsTo are the two bytes that lead from a rank to another one: the steps of
// a rank are gone backwards.
func tailsTo(rank uint32) tail {
	inverse := uint32(1) // of the factor, by Newton's method
	for range 5 {
		inverse *= 2 - 16777619*inverse
	}
	all := tail{}
	for low := range uint32(256) {
		for high := range uint32(256) {
			all[(rank*inverse^low)*inverse^high] = [2]byte{byte(high), byte(low)}
		}
	}
	return all
}

// alike are n keys with the rank of the given one, which is not among them;
// most have 5 bytes.
func alike(key string, n int) []string {
	tails, all := tailsTo(rank(key)), []string(nil)
	for i := uint32(0); len(all) < n; i++ {
		begin := string([]byte{byte(i >> 16), byte(i >> 8), byte(i)})
		if end, ok := tails[rank(begin)]; ok && begin+string(end[:]) != key {
			all = append(all, begin+string(end[:]))
		}
	}
	return all
}

// someKeys are keys that are near each other, of equal ranks, long, and empty.
var someKeys = sync.OnceValue(func() []string {
	all := []string{"", "\x00", "\x00\x00", "a", "a\x00", "a/", "a/b", "aa", "ab", "b", "b\xff", "c", "z", "ä", "\xfe", "\xff", "\xff\xff",
		strings.Repeat("k", 512), strings.Repeat("k", 511), strings.Repeat("k", 513)}
	all = append(all, alike("", 4)...)
	all = append(all, alike("a", 4)...)
	// Clipped, because what a test appends must not be seen by another one.
	return slices.Clip(all)
})

// text is a text that changes with b, as none should.
func text(b []byte) string {
	return unsafe.String(unsafe.SliceData(b), len(b))
}

// address is where the bytes of a text are.
func address(s string) string {
	return fmt.Sprint(unsafe.StringData(s))
}

// spoil changes the pairs of a list, and what its spare capacity has.
func spoil(l []api.Pair) {
	l = l[:cap(l)]
	for i := range l {
		l[i] = put("spoiled", "spoiled")
	}
}

// ascent are n keys whose ranks ascend, so that each is above all before it,
// and the tree is as deep as it can be. The keys ascend, too, if step is 1, and
// descend if it is -1: the one with the index i begins with i+1 steps, and has a
// rank in the window of that number.
func ascent(n, step int) []string {
	window := 1 << 32 / n
	all := make([]string, 0, n)
	for i := range n {
		all = append(all, inWindow(uint32((i+1)*step), uint32(i*window), uint32((i+1)*window-1)))
	}
	return all
}

// inWindow is a key that begins with i, and whose rank is in a window. All but
// its last byte are tried; that one turns the highest bits of the rank.
func inWindow(i, low, high uint32) string {
	begin := []byte{byte(i >> 24), byte(i >> 16), byte(i >> 8), byte(i)}
	for a := range 256 {
		for b := range 256 {
			key := append(slices.Clone(begin), byte(a), byte(b))
			state := rank(string(key))
			turned := (low>>24 - (state&^255*16777619)>>24) & 255
			for _, last := range []uint32{turned, (turned - 1) & 255} {
				c := last ^ state&255
				if r := (state ^ c) * 16777619; low <= r && r <= high {
					return string(append(key, byte(c)))
				}
			}
		}
	}
	panic("no key in the window")
}
