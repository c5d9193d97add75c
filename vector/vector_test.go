package vector_test

import (
	"math"
	"math/rand"
	"slices"
	"testing"

	"packtrain/api"
	"packtrain/vector"
)

// The chapter's examples.
func TestExamples(t *testing.T) {
	v, e := vector.Bump(vec("1:2"), 3)
	if e != api.OK || vector.Text(v) != "1:2 3:1" {
		t.Error(v, e)
	}
	v, e = vector.Merge(vec("1:2"), vec("1:1 3:4"))
	if e != api.OK || vector.Text(v) != "1:2 3:4" {
		t.Error(v, e)
	}
	if c := vector.Compare(vec("1:2"), vec("1:2 3:1")); c != api.CmpBefore {
		t.Error(c)
	}
	if c := vector.Compare(vec("1:2"), vec("3:1")); c != api.CmpBeside {
		t.Error(c)
	}
	if c := vector.Order(vec("1:2"), vec("3:2")); c != 1 {
		t.Error(c)
	}
}

// P8.1: Check.
func TestCheck(t *testing.T) {
	good := append(few(), nil, []api.Count{}, vec("1:1"), vec("16:1"), vec("1:max"), vec("16:max"), vec("1:1 2:1"), vec("1:5 16:1"), all(1), all(max64), all(max64)[1:])
	for device := 1; device <= 16; device++ {
		good = append(good, []api.Count{{Device: device, Value: uint64(device)}})
	}
	for _, v := range good {
		if e := vector.Check(v); e != api.OK {
			t.Errorf("Check of %v: %d", v, e)
		}
	}
	for _, v := range invalid() {
		if e := vector.Check(v); e != api.ErrArg {
			t.Errorf("Check of %v: %d", v, e)
		}
	}
}

// P8.1: Check finds what is wrong at any place of a vector of all devices.
func TestCheckAtEachPlace(t *testing.T) {
	for i := range 16 {
		v := all(3)
		v[i].Value = 0
		if e := vector.Check(v); e != api.ErrArg {
			t.Errorf("the value 0 at %d: %d", i, e)
		}
		for _, device := range []int{math.MinInt, -1, 0, i, i + 2, 17, math.MaxInt} {
			v = all(3)
			v[i].Device = device
			wrong := !(i == 0 && device == 1 || i == 15 && device == 16)
			if e := vector.Check(v); wrong != (e == api.ErrArg) {
				t.Errorf("device %d at %d: %d", device, i, e)
			}
		}
	}
}

// P8.1: Value, of vectors.
func TestValue(t *testing.T) {
	random := rand.New(rand.NewSource(1))
	l := append(few(), nil, []api.Count{}, all(max64))
	for range 200 {
		l = append(l, random16(random))
	}
	for _, v := range l {
		x := of(v)
		for device := range x {
			if got := vector.Value(v, device); got != x[device] {
				t.Errorf("Value of %v and %d: %d", v, device, got)
			}
		}
		for _, device := range []int{math.MinInt, -1, 0, 17, math.MaxInt} {
			if got := vector.Value(v, device); got != 0 {
				t.Errorf("Value of %v and %d: %d", v, device, got)
			}
		}
	}
}

// P8.1: Value returns the first count's also where the counts are no vector.
func TestValueOfNoVector(t *testing.T) {
	for _, c := range []struct {
		v      []api.Count
		device int
		want   uint64
	}{
		{vec("1:5 1:7"), 1, 5},
		{vec("2:1 1:7 1:9"), 1, 7},
		{vec("3:1 2:4 3:8"), 2, 4},
		{vec("1:0 1:7"), 1, 0},
		{vec("0:3"), 0, 3},
		{vec("17:3 -1:max"), 17, 3},
		{vec("17:3 -1:max"), -1, max64},
		{vec("17:3 -1:max"), 1, 0},
		{vec("9:1 8:1 1:6"), 1, 6},
		{[]api.Count{{Device: math.MinInt, Value: 2}}, math.MinInt, 2},
	} {
		if got := vector.Value(c.v, c.device); got != c.want {
			t.Errorf("Value of %v and %d: %d, not %d", c.v, c.device, got, c.want)
		}
	}
}

// P8.1: Bump.
func TestBump(t *testing.T) {
	random := rand.New(rand.NewSource(2))
	l := append(few(), nil, []api.Count{}, all(1), all(max64), all(max64-1), vec("1:max 2:1"))
	for range 200 {
		l = append(l, random16(random))
	}
	for _, v := range l {
		for device := 1; device <= 16; device++ {
			x, want := of(v), api.OK
			x[device]++
			after := x.vector()
			if x[device] == 0 {
				after, want = nil, api.ErrLong
			}
			got, e := vector.Bump(v, device)
			same(t, "Bump of "+text(v), got, after)
			if e != want {
				t.Errorf("Bump of %v and %d: %d, not %d", v, device, e, want)
			}
		}
	}
}

// bumpFails checks that Bump returns an error alone.
func bumpFails(t *testing.T, v []api.Count, device int, want api.Errno) {
	t.Helper()
	if got, e := vector.Bump(v, device); e != want || len(got) > 0 {
		t.Errorf("Bump of %v and %d: %v, %d, not %d", v, device, got, e, want)
	}
}

// P8.1: what Bump rejects. A vector that is not valid counts before a value that
// is the greatest one.
func TestBumpRejects(t *testing.T) {
	for _, device := range []int{math.MinInt, -1, 0, 17, 18, 256, 257, 1 << 32, 1<<32 + 1, math.MaxInt} {
		for _, v := range [][]api.Count{nil, vec("1:1"), all(1), all(max64), vec("16:max")} {
			bumpFails(t, v, device, api.ErrArg)
		}
	}
	for _, v := range invalid() {
		for device := -1; device <= 18; device++ {
			bumpFails(t, v, device, api.ErrArg)
		}
	}
	bumpFails(t, vec("1:max 1:max"), 1, api.ErrArg)
	bumpFails(t, vec("1:max 17:1"), 1, api.ErrArg)
	bumpFails(t, vec("1:max 17:1"), 17, api.ErrArg)
	bumpFails(t, vec("17:max"), 17, api.ErrArg)
	bumpFails(t, vec("1:max"), 1, api.ErrLong)
	bumpFails(t, vec("1:1 16:max"), 16, api.ErrLong)
}

// merges checks what Merge returns.
func merges(t *testing.T, l ...[]api.Count) {
	t.Helper()
	got, e := vector.Merge(l...)
	if e != api.OK {
		t.Errorf("Merge of %v: %d", l, e)
	}
	same(t, "Merge", got, merge(l...))
}

// P8.1: Merge of any number of vectors.
func TestMerge(t *testing.T) {
	merges(t)
	merges(t, nil)
	merges(t, nil, []api.Count{}, nil)
	merges(t, nil, vec("2:1"), nil)
	merges(t, vec("16:1"), vec("1:1"))
	merges(t, all(max64), all(1))
	merges(t, vec("2:3 4:5"), vec("1:1 3:1 5:1"), vec("2:4 4:4"))
	for _, a := range few() {
		merges(t, a)
		for _, b := range few() {
			merges(t, a, b)
		}
	}
	random := rand.New(rand.NewSource(3))
	var l [][]api.Count
	for range 500 {
		l = append(l, random16(random))
		merges(t, l[max(0, len(l)-random.Intn(6)):]...)
	}
	merges(t, l...)
}

// P8.1: Merge with a part that is not valid, wherever it is.
func TestMergeRejects(t *testing.T) {
	for _, v := range invalid() {
		for _, l := range [][][]api.Count{{v}, {v, vec("1:1")}, {vec("1:1"), v}, {nil, v, all(max64)}, {v, v}, {v, nil}} {
			if got, e := vector.Merge(l...); e != api.ErrArg || len(got) > 0 {
				t.Errorf("Merge of %v: %v, %d", l, got, e)
			}
		}
	}
	// Valid together, but not each of them.
	if got, e := vector.Merge(vec("1:1"), vec("1:0 2:1")); e != api.ErrArg || len(got) > 0 {
		t.Error(got, e)
	}
}

// relates checks what Compare and Order return of a and b, and of b and a.
func relates(t *testing.T, a, b []api.Count) {
	t.Helper()
	x, y := of(a), of(b)
	for _, p := range []struct {
		a, b []api.Count
		x, y values
	}{{a, b, x, y}, {b, a, y, x}} {
		if got, want := vector.Compare(p.a, p.b), p.x.relation(p.y); got != want {
			t.Errorf("Compare of %v and %v: %d, not %d", p.a, p.b, got, want)
		}
		if got, want := vector.Order(p.a, p.b), p.x.order(p.y); got != want {
			t.Errorf("Order of %v and %v: %d, not %d", p.a, p.b, got, want)
		}
	}
}

// P8.2: Compare and Order.
func TestCompareAndOrder(t *testing.T) {
	l := append(few(), []api.Count{}, all(1), all(max64), all(max64)[1:], all(max64)[:15])
	for _, a := range l {
		for _, b := range l {
			relates(t, a, b)
		}
	}
	random := rand.New(rand.NewSource(4))
	met := map[int]int{}
	for range 20000 {
		a := random16(random)
		b := near(random, a)
		relates(t, a, b)
		relates(t, a, random16(random))
		met[vector.Compare(a, b)]++
	}
	for c := api.CmpSame; c <= api.CmpBeside; c++ {
		if met[c] < 1000 {
			t.Errorf("the relation %d was met %d times", c, met[c])
		}
	}
}

// P8.2: the sum has no bound, and decides before any value does.
func TestOrderOfSums(t *testing.T) {
	for _, c := range []struct {
		a, b []api.Count
		want int
	}{
		{nil, []api.Count{}, 0},
		{vec("1:1"), nil, 1},
		{vec("16:1"), vec("1:1"), -1},
		{vec("1:3"), vec("2:4"), -1},
		{vec("1:1 2:2"), vec("1:2 2:1"), -1},
		{vec("1:2 3:1"), vec("1:2 2:1"), -1},
		{vec("1:max 2:1"), vec("1:max"), 1},
		{vec("1:max 2:1"), vec("3:max"), 1},
		{vec("1:1 2:max"), vec("3:5"), 1},
		{vec("1:max 2:max"), vec("1:max 3:max"), 1},
		{vec("1:max 2:max"), vec("3:max 4:max 5:1"), -1},
		{vec("1:max 2:1"), vec("3:1 4:max"), 1},
		{all(max64), vec("1:max"), 1},
		{all(max64)[1:], all(max64)[:15], -1},
		{all(1 << 60), vec("1:max"), 1},
		{all(1 << 60), vec("1:max 2:1"), -1},
		{all(1 << 60), vec("2:max 3:1"), 1},
		{all(1 << 60)[1:], vec("1:max 2:1"), -1},
	} {
		if got := vector.Order(c.a, c.b); got != c.want {
			t.Errorf("Order of %v and %v: %d, not %d", c.a, c.b, got, c.want)
		}
		if got := vector.Order(c.b, c.a); got != -c.want {
			t.Errorf("Order of %v and %v: %d, not %d", c.b, c.a, got, -c.want)
		}
	}
}

// P8.2: what is told of counts that are no vector.
func TestNoVector(t *testing.T) {
	for _, v := range invalid() {
		for _, other := range [][]api.Count{nil, vec("1:1"), vec("2:7"), all(max64), v} {
			if a, b := vector.Compare(v, other), vector.Compare(other, v); a != 0 || b != 0 {
				t.Errorf("Compare of %v and %v: %d, %d", v, other, a, b)
			}
			if a, b := vector.Order(v, other), vector.Order(other, v); a != 0 || b != 0 {
				t.Errorf("Order of %v and %v: %d, %d", v, other, a, b)
			}
		}
		if b, e := vector.Bytes(v); e != api.ErrArg || len(b) > 0 {
			t.Errorf("Bytes of %v: %v, %d", v, b, e)
		}
		if s := vector.Text(v); s != "" {
			t.Errorf("Text of %v: %q", v, s)
		}
	}
}

// P8.2: Text.
func TestText(t *testing.T) {
	for s, v := range map[string][]api.Count{
		"":                             nil,
		"1:1":                          vec("1:1"),
		"16:18446744073709551615":      vec("16:max"),
		"1:10 2:200 10:3":              vec("1:10 2:200 10:3"),
		"1:9223372036854775808 16:100": {{Device: 1, Value: 1 << 63}, {Device: 16, Value: 100}},
	} {
		if got := vector.Text(v); got != s {
			t.Errorf("Text of %v: %q", v, got)
		}
	}
	random := rand.New(rand.NewSource(5))
	for range 2000 {
		v := random16(random)
		if got := vector.Text(v); got != text(v) {
			t.Errorf("Text of %v: %q", v, got)
		}
	}
}

// Rules 3 and 4: nothing that was passed is changed, read later or returned, nor
// its spare capacity.
func TestNewMemory(t *testing.T) {
	for _, v := range append(few(), nil, all(1)) {
		for device := 1; device <= 16; device++ {
			a := roomy(v)
			got, _ := vector.Bump(a, device)
			want := slices.Clone(got)
			untouched(t, "Bump", a, v)
			spoil(a)
			same(t, "Bump after its argument changed", got, want)
			a = roomy(v)
			got, _ = vector.Bump(a, device)
			spoil(got)
			untouched(t, "Bump after its result changed", a, v)
		}
	}
	for _, v := range few() {
		for _, w := range few() {
			a, b := roomy(v), roomy(w)
			vector.Compare(a, b)
			vector.Order(a, b)
			vector.Bytes(a)
			for _, l := range [][][]api.Count{{a}, {a, b}, {a, nil}, {nil, a}, {a, a}} {
				parts := slices.Clone(l)
				got, _ := vector.Merge(parts...)
				spoil(got)
				untouched(t, "Merge", a, v)
				untouched(t, "Merge", b, w)
				for i := range l {
					same(t, "a part of Merge", parts[i], l[i])
				}
			}
			got, _ := vector.Merge(a, b)
			spoil(a)
			spoil(b)
			same(t, "Merge after its arguments changed", got, merge(v, w))
		}
	}
}
