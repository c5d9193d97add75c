package table_test

import (
	"fmt"
	"math"
	"math/rand"
	"slices"
	"strconv"
	"testing"

	"packtrain/api"
	"packtrain/table"
)

// kept is a table that is kept while others are made of it.
type kept struct {
	table table.Table
	model model
}

// grown are tables of which each is made of one before it, in any way.
func grown(t *testing.T, random *rand.Rand, keys []string, n int) []kept {
	t.Helper()
	all := []kept{{model: model{}}}
	for range n {
		// Mostly the last one, so that tables become great.
		from := all[len(all)-1]
		if random.Intn(4) == 0 {
			from = all[random.Intn(len(all))]
		}
		key, value := keys[random.Intn(len(keys))], strconv.Itoa(random.Intn(3))
		switch random.Intn(8) {
		case 0, 1:
			all = append(all, kept{from.table.Drop(key), from.model.without(key)})
		case 2:
			below, others := from.table.Cut(key)
			_, high := from.model.cut(key)
			low := from.model
			for _, k := range high {
				low = low.without(k)
			}
			rest := model{}
			for _, k := range high {
				rest[k] = from.model[k]
			}
			all = append(all, kept{below, low}, kept{others, rest}, from)
		default:
			all = append(all, kept{from.table.Put(key, value), from.model.with(key, value)})
		}
		last := all[len(all)-1]
		is(t, "a table that was made", last.table, last.model)
	}
	return all
}

// P6.1, P6.2 and P6.3: tables that are made of others in any way are as the
// model, and stay so while others are made of them.
func TestAsTheModel(t *testing.T) {
	keys := someKeys()
	for seed := range 40 {
		random := rand.New(rand.NewSource(int64(seed)))
		all := grown(t, random, keys, 150)
		for _, x := range all {
			is(t, "a table that was kept", x.table, x.model)
		}
		for range 50 {
			x, y := all[random.Intn(len(all))], all[random.Intn(len(all))]
			answers(t, x.table, x.model, append(keys, "A", "aaa", "\xff\xff\xff"))
			same(t, "Changes", x.table.Changes(y.table), x.model.changes(y.model))
			from, to, most := keys[random.Intn(len(keys))], keys[random.Intn(len(keys))], random.Intn(len(keys))
			same(t, "Range", x.table.Range(from, to, most), x.model.between(from, to, most))
		}
	}
}

// P6.3: nothing that is done to a table changes it.
func TestNothingChanges(t *testing.T) {
	m := model{}
	for i, k := range someKeys() {
		m[k] = strconv.Itoa(i)
	}
	x := m.of(rand.New(rand.NewSource(1)))
	y := x
	for _, k := range append(someKeys(), "A", "aaa") {
		x.Put(k, "new").Drop(k).Put(k, "newer")
		x.Drop(k).Put(k, "new")
		below, others := x.Cut(k)
		below.Put(k, "new")
		others.Drop(k)
		x.Get(k)
		x.Next(k)
		x.Place(k)
		x.Range(k, "", 3)
		x.Changes(x.Put(k, "new"))
		x.Nodes()
		is(t, "the table", x, m)
	}
	if x != y {
		t.Error("it became another one")
	}
}

// P6.3: the same pairs make the same tree, in whatever order they are put, also
// if others were put and dropped.
func TestEachOrder(t *testing.T) {
	keys := append(alike("a", 2), "", "a", "b")
	m := model{}
	for i, k := range keys {
		m[k] = strconv.Itoa(i)
	}
	want := m.nodes(m.all())
	orders := 0
	permuted(m.pairs(keys), len(keys), func(l []api.Pair) {
		orders++
		x := table.Of(l)
		same(t, "Nodes", x.Nodes(), want)
		for _, p := range l {
			y := x.Drop(p.Key)
			is(t, "the table without a key", y, m.without(p.Key))
			same(t, "Nodes with the key again", y.Put(p.Key, p.Value).Nodes(), want)
			same(t, "Nodes with another one", x.Put("c", "6").Drop("c").Nodes(), want)
		}
	})
	if orders != 120 {
		t.Error(orders)
	}
}

// permuted calls f with all orders of the first n of l.
func permuted(l []api.Pair, n int, f func([]api.Pair)) {
	if n == 0 {
		f(slices.Clone(l))
		return
	}
	for i := range n {
		l[i], l[n-1] = l[n-1], l[i]
		permuted(l, n-1, f)
		l[i], l[n-1] = l[n-1], l[i]
	}
}

// P6.3: among keys of equal ranks the smallest is highest: all of them are one
// way to the right, whatever was put first.
func TestEqualRanks(t *testing.T) {
	keys := alike("a", 60)
	m := model{}
	for _, k := range keys {
		if table.Rank(k) != table.Rank("a") {
			t.Fatalf("%q has another rank", k)
		}
		m[k] = "1"
	}
	for seed := range 10 {
		x := m.of(rand.New(rand.NewSource(int64(seed))))
		same(t, "Nodes", x.Nodes(), m.pairs(m.all()))
		for i, k := range m.all() {
			below, others := x.Cut(k)
			if below.Size() != i || others.Size() != len(m)-i || x.Place(k) != i {
				t.Fatalf("%q is not at %d", k, i)
			}
			is(t, "the table without a key", x.Drop(k), m.without(k))
		}
	}
}

// P6.3: the two results of Cut together are the table, wherever it is cut.
func TestCutTogether(t *testing.T) {
	for seed := range 20 {
		random := rand.New(rand.NewSource(int64(seed)))
		m := model{}
		for _, k := range someKeys() {
			if random.Intn(3) > 0 {
				m[k] = strconv.Itoa(random.Intn(9))
			}
		}
		x := m.of(random)
		for _, k := range append(someKeys(), "A", "aaa", "\xff\xff\xff") {
			below, others := x.Cut(k)
			low, high := m.cut(k)
			same(t, "below", below.Range("", "", math.MaxInt), m.pairs(low))
			same(t, "others", others.Range("", "", math.MaxInt), m.pairs(high))
			same(t, "Nodes of below", below.Nodes(), m.nodes(low))
			same(t, "Nodes of others", others.Nodes(), m.nodes(high))
			same(t, "both", slices.Concat(below.Range("", "", len(m)), others.Range("", "", len(m))), m.pairs(m.all()))
			if below.Size()+others.Size() != x.Size() || below.Size() != x.Place(k) {
				t.Fatalf("%q: %d and %d of %d", k, below.Size(), others.Size(), x.Size())
			}
			for _, p := range below.Nodes() {
				others = others.Put(p.Key, p.Value)
			}
			is(t, "the table that is put together", others, m)
		}
	}
}

// Rule 3: what is passed to a table may be changed.
func TestMemoryOfArguments(t *testing.T) {
	key, value := []byte("aa"), []byte("1")
	x := table.Table{}.Put(text(key), text(value))
	y := x.Put(text(key), text(value))
	l := []api.Pair{put(text(key), text(value)), put("b", "2"), put("c", "3")}
	z := table.Of(l[:2])
	if l[2] != put("c", "3") {
		t.Errorf("spare capacity was changed: %+v", l[2])
	}
	copy(key, "--")
	copy(value, "-")
	spoil(l)
	is(t, "a table with a key", x, model{"aa": "1"})
	is(t, "a table with another value", y, model{"aa": "1"})
	is(t, "a table of pairs", z, model{"aa": "1", "b": "2"})
	below, others := z.Cut(text(key))
	copy(key, "zz")
	is(t, "what is below", below, model{})
	is(t, "the others", others, model{"aa": "1", "b": "2"})
}

// Rule 3: what a table returns may be changed, and no two results share memory.
func TestMemoryOfResults(t *testing.T) {
	m := model{"aa": "11", "bb": "22", "cc": "33"}
	x := m.of(rand.New(rand.NewSource(1)))
	y := x.Put("aa", "44").Drop("bb").Put("dd", "55")
	all := func() []api.Pair {
		value, _ := x.Get("aa")
		p, _ := x.Next("aa")
		return slices.Concat([]api.Pair{put("", value), p}, x.Range("", "", 9), x.Nodes(), x.Changes(y), y.Changes(x))
	}
	seen := map[string]bool{}
	want := fmt.Sprintf("%+v", all())
	for range 3 {
		for _, l := range [][]api.Pair{x.Range("", "", 9), x.Range("", "", 1), x.Nodes(), x.Changes(y), y.Changes(x)} {
			spoil(l)
		}
		got := all()
		if s := fmt.Sprintf("%+v", got); s != want {
			t.Errorf("%s was %s", s, want)
		}
		for _, p := range got {
			for _, s := range []string{p.Key, p.Value} {
				if at := address(s); s != "" && seen[at] {
					t.Errorf("the memory of %q is returned twice", s)
				} else {
					seen[at] = true
				}
			}
		}
	}
	is(t, "the table", x, m)
}

// T6: the result of a call depends on nothing else.
func TestSameAgain(t *testing.T) {
	all := map[string]bool{}
	for range 3 {
		random := rand.New(rand.NewSource(7))
		s := ""
		for _, x := range grown(t, random, someKeys(), 60) {
			s += fmt.Sprint(x.table.Nodes(), x.table.Changes(table.Table{}.Put("a", "1")))
		}
		all[s] = true
	}
	if len(all) != 1 {
		t.Errorf("%d different lives", len(all))
	}
}

// A table may be used by many at a time, because it never changes.
func TestAtOnce(t *testing.T) {
	m := model{}
	for i, k := range someKeys() {
		m[k] = strconv.Itoa(i)
	}
	x := m.of(rand.New(rand.NewSource(1)))
	done := make(chan table.Table)
	for i := range 8 {
		go func() {
			y := x
			for _, k := range someKeys() {
				y = y.Put(k, strconv.Itoa(i)).Drop("a")
				x.Changes(y)
			}
			done <- y
		}()
	}
	for range 8 {
		if y := <-done; y.Size() != len(m)-1 {
			t.Error(y.Size())
		}
	}
	is(t, "the table", x, m)
}

// The deepest trees: the node of each key has one child, always on the same
// side.
func TestDeep(t *testing.T) {
	for _, step := range []int{1, -1} {
		keys := ascent(1<<16, step)
		var x table.Table
		for i, k := range keys {
			if i > 0 && rank(k) <= rank(keys[i-1]) {
				t.Fatalf("%q is not above %q", k, keys[i-1])
			}
			x = x.Put(k, "1")
		}
		slices.Reverse(keys)
		for i, p := range x.Nodes() {
			if p.Key != keys[i] {
				t.Fatalf("%q is at the depth %d, not %q", p.Key, i, keys[i])
			}
		}
		slices.Sort(keys)
		low, high := keys[0], keys[len(keys)-1]
		y := x.Put(low, "2").Drop(keys[1]).Put(high, "3").Drop(high + "x")
		same(t, "Changes", x.Changes(y), []api.Pair{put(low, "2"), gone(keys[1]), put(high, "3")})
		same(t, "Range", y.Range(low, high, 2), []api.Pair{put(low, "2"), put(keys[2], "1")})
		for i := 0; i < len(keys); i += 1000 {
			below, others := x.Cut(keys[i])
			if below.Size() != i || others.Size() != len(keys)-i || x.Place(keys[i]) != i {
				t.Fatalf("%d: %d and %d", i, below.Size(), others.Size())
			}
		}
		if p, ok := x.Next(low); !ok || p.Key != keys[1] || x.Size() != len(keys) {
			t.Error(p, ok, x.Size())
		}
	}
}
