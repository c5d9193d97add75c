package table_test

import (
	"math"
	"math/rand"
	"slices"
	"strconv"
	"strings"
	"testing"

	"packtrain/api"
	"packtrain/table"
)

// The chapter's examples.
func TestExamples(t *testing.T) {
	if got := table.Rank("a"); got != 3826002220 {
		t.Error(got)
	}
	if got := table.Rank(""); got != 2166136261 {
		t.Error(got)
	}
	x := table.Of([]api.Pair{put("b", "2"), put("a", "1"), put("b", "3")})
	same(t, "Range", x.Range("", "", 9), []api.Pair{put("a", "1"), put("b", "3")})
	y := table.Of([]api.Pair{put("b", "4"), put("c", "5")})
	same(t, "Changes", x.Changes(y), []api.Pair{gone("a"), put("b", "4"), put("c", "5")})
}

// P6.2: Rank.
func TestRank(t *testing.T) {
	keys := append(someKeys(), strings.Repeat("\xff", 1<<20))
	for c := range 256 {
		keys = append(keys, string([]byte{byte(c)}), string([]byte{0, byte(c)}), string([]byte{byte(c), 255}))
	}
	random := rand.New(rand.NewSource(6))
	for range 2000 {
		b := make([]byte, random.Intn(40))
		random.Read(b)
		keys = append(keys, string(b))
	}
	for _, k := range keys {
		if got := table.Rank(k); got != rank(k) {
			t.Errorf("Rank(%.80q) is %d, not %d", k, got, rank(k))
		}
	}
}

// P6.1 and P6.2: a table without keys, whether zero or made.
func TestEmpty(t *testing.T) {
	var zero table.Table
	for i, x := range []table.Table{zero, table.Of(nil), table.Of([]api.Pair{}), zero.Put("", "1").Drop(""), zero.Drop("a")} {
		is(t, "an empty table", x, model{})
		answers(t, x, model{}, someKeys())
		below, others := x.Cut("a")
		if x != zero || below != zero || others != zero || len(x.Changes(zero)) > 0 || len(zero.Changes(x)) > 0 {
			t.Error(i)
		}
		is(t, "an empty table with a key", x.Put("a", "1"), model{"a": "1"})
	}
	is(t, "the zero table", zero, model{})
}

// P6.1: an empty key, and an empty value, are such as any.
func TestEmptyTexts(t *testing.T) {
	m := model{"": "1", "a": "", "b": "2"}
	x := m.of(rand.New(rand.NewSource(1)))
	is(t, "the table", x, m)
	answers(t, x, m, []string{"", "\x00", "a", "b", "c"})
	is(t, "the table without the empty key", x.Drop(""), m.without(""))
	is(t, "the table with an empty value", x.Put("", ""), m.with("", ""))
	is(t, "the table with another value", x.Put("a", "3"), m.with("a", "3"))
	below, others := x.Cut("")
	is(t, "what is below the empty key", below, model{})
	is(t, "what is not", others, m)
}

// P6.1: Drop of what is not there is the same table.
func TestDropOfNothing(t *testing.T) {
	for _, keys := range [][]string{nil, {""}, {"b"}, {"a", "c"}, someKeys()[1:]} {
		m := model{}
		for _, k := range keys {
			m[k] = "1"
		}
		x := m.of(rand.New(rand.NewSource(1)))
		for _, k := range append(someKeys(), "bb", "A", "\x01") {
			if _, ok := m[k]; !ok && x.Drop(k) != x {
				t.Errorf("Drop(%q) of %q is another table", k, keys)
			}
		}
	}
}

// P6.1: Of puts all, one by one: the last value of a key counts; a pair that
// is gone is put as any.
func TestOf(t *testing.T) {
	for i, c := range []struct {
		l    []api.Pair
		want model
	}{
		{[]api.Pair{put("a", "1")}, model{"a": "1"}},
		{[]api.Pair{put("a", "1"), put("a", "2"), put("b", "3"), put("a", "")}, model{"a": "", "b": "3"}},
		{[]api.Pair{put("", "1"), put("", "2")}, model{"": "2"}},
		{[]api.Pair{put("a", "1"), gone("a"), gone("b")}, model{"a": "", "b": ""}},
		{[]api.Pair{{Key: "a", Value: "1", Gone: true}}, model{"a": "1"}},
	} {
		is(t, "case "+strconv.Itoa(i), table.Of(c.l), c.want)
	}
}

// P6.2: Range with all edges.
func TestRange(t *testing.T) {
	m := model{}
	for i, k := range someKeys() {
		m[k] = strconv.Itoa(i)
	}
	x := m.of(rand.New(rand.NewSource(2)))
	for _, probes := range [][]string{m.all(), {"", "A", "aaa", "a0", "\x01", "b", "kk", "zz", "\xff\xff\xff"}} {
		for _, from := range probes {
			for _, to := range probes {
				for _, most := range []int{0, 1, 2, 5, len(m) - 1, len(m), len(m) + 1, math.MaxInt, -1, math.MinInt} {
					same(t, "Range", x.Range(from, to, most), m.between(from, to, most))
				}
			}
		}
	}
}

// P6.2: a Range of few pairs does not depend on how many there are.
func TestRangeOfMany(t *testing.T) {
	m := model{}
	for i := range 20000 {
		m[strconv.Itoa(i)] = strconv.Itoa(i)
	}
	x := m.of(rand.New(rand.NewSource(3)))
	is(t, "many keys", x, m)
	keys := m.all()
	for i := 0; i < len(keys); i += 500 {
		for _, most := range []int{0, 1, 10} {
			same(t, "Range from a key on", x.Range(keys[i], "", most), m.pairs(keys[i:min(i+most, len(keys))]))
			same(t, "Range up to a key", x.Range("", keys[i], most), m.pairs(keys[:min(i, most)]))
		}
		if x.Place(keys[i]) != i || x.Place(keys[i]+"\x00") != i+1 {
			t.Fatalf("%q is at %d, not at %d", keys[i], x.Place(keys[i]), i)
		}
	}
}

// P6.2: Next, from the first pair to the last one, is Range.
func TestNextOfEach(t *testing.T) {
	m := model{}
	for i, k := range someKeys() {
		m[k] = strconv.Itoa(i)
	}
	x := m.of(rand.New(rand.NewSource(4)))
	value, _ := x.Get("")
	l := []api.Pair{put("", value)}
	for p, ok := x.Next(""); ok && len(l) <= len(m); p, ok = x.Next(p.Key) {
		l = append(l, p)
	}
	same(t, "Next", l, m.pairs(m.all()))
}

// fewTables are all tables of 4 keys with 2 values.
func fewTables() []model {
	all := []model{{}}
	for _, k := range append(alike("b", 1), "", "a", "b") {
		for _, m := range slices.Clone(all) {
			all = append(all, m.with(k, "1"), m.with(k, ""))
		}
	}
	return all
}

// P6.2: Changes between any two of few tables; what they tell is what has to
// be done.
func TestChanges(t *testing.T) {
	random := rand.New(rand.NewSource(5))
	for _, m := range fewTables() {
		x := m.of(random)
		for _, to := range fewTables() {
			y := to.of(random)
			l := x.Changes(y)
			same(t, "Changes", l, m.changes(to))
			for _, p := range l {
				if p.Gone {
					x = x.Drop(p.Key)
				} else {
					x = x.Put(p.Key, p.Value)
				}
			}
			is(t, "the changed table", x, to)
			x = m.of(random)
		}
	}
}

// P6.2: Changes between great tables, most of whose keys are the same, or none.
func TestChangesOfMany(t *testing.T) {
	random := rand.New(rand.NewSource(6))
	m, o := model{}, model{}
	for i := range 3000 {
		m[strconv.Itoa(2*i)] = "1"
		o[strconv.Itoa(2*i+1)] = "1"
	}
	x, y := m.of(random), o.of(random)
	same(t, "Changes to others", x.Changes(y), m.changes(o))
	same(t, "Changes to nothing", x.Changes(table.Table{}), m.changes(model{}))
	same(t, "Changes from nothing", table.Table{}.Changes(x), model{}.changes(m))
	to, z := m, x
	for range 20 {
		k, value := strconv.Itoa(random.Intn(6000)), strconv.Itoa(random.Intn(2))
		to, z = to.with(k, value), z.Put(k, value)
		k = strconv.Itoa(random.Intn(6000))
		to, z = to.without(k), z.Drop(k)
		same(t, "Changes of few", x.Changes(z), m.changes(to))
		same(t, "Changes back", z.Changes(x), to.changes(m))
	}
	same(t, "Changes to the same pairs", x.Changes(m.of(random)), nil)
}
