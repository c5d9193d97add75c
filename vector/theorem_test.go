package vector_test

import (
	"math"
	"math/rand"
	"testing"

	"packtrain/api"
	"packtrain/vector"
)

// notAfter tells by Compare whether a is before b, or equal to it.
func notAfter(a, b []api.Count) bool {
	c := vector.Compare(a, b)
	return c == api.CmpBefore || c == api.CmpSame
}

// someVectors are few vectors, and such as are near each other.
func someVectors() [][]api.Count {
	l := append(few(), all(1), all(max64))
	random := rand.New(rand.NewSource(8))
	v := all(5)
	for range 30 {
		v = near(random, v)
		l = append(l, v)
	}
	return l
}

// P8.3: Compare is a partial order.
func TestPartialOrder(t *testing.T) {
	opposite := map[int]int{api.CmpSame: api.CmpSame, api.CmpBefore: api.CmpBehind, api.CmpBehind: api.CmpBefore, api.CmpBeside: api.CmpBeside}
	for i, a := range someVectors() {
		if vector.Compare(a, a) != api.CmpSame {
			t.Errorf("%v is not the same as itself", a)
		}
		for j, b := range someVectors() {
			c := vector.Compare(a, b)
			if opposite[c] != vector.Compare(b, a) || i == j && c != api.CmpSame {
				t.Errorf("%v and %v: %d, and %d", a, b, c, vector.Compare(b, a))
			}
			if c != api.CmpBefore {
				continue
			}
			for _, d := range someVectors() {
				if vector.Compare(b, d) == api.CmpBefore && vector.Compare(a, d) != api.CmpBefore {
					t.Errorf("%v is before %v, and this before %v", a, b, d)
				}
			}
		}
	}
}

// P8.3: a is before Bump of a.
func TestBeforeBump(t *testing.T) {
	random := rand.New(rand.NewSource(9))
	for range 500 {
		a := random16(random)
		for device := 1; device <= 16; device++ {
			b, e := vector.Bump(a, device)
			if e == api.ErrLong && vector.Value(a, device) == math.MaxUint64 {
				continue
			}
			if e != api.OK || vector.Compare(a, b) != api.CmpBefore || vector.Order(a, b) != -1 {
				t.Errorf("%v is not before its Bump of %d: %v, %d", a, device, b, e)
			}
		}
	}
}

// P8.3: Merge is the smallest vector that is after, or equal to, each part.
func TestMergeIsSmallest(t *testing.T) {
	l := someVectors()
	for _, a := range l {
		for _, b := range l {
			m, e := vector.Merge(a, b)
			if e != api.OK || !notAfter(a, m) || !notAfter(b, m) {
				t.Fatalf("Merge of %v and %v: %v, %d", a, b, m, e)
			}
			for _, c := range l {
				if notAfter(a, c) && notAfter(b, c) && !notAfter(m, c) {
					t.Errorf("Merge of %v and %v: %v, but %v is smaller", a, b, m, c)
				}
			}
		}
	}
}

// P8.3: Merge does not depend on the order of its parts, nor on how often each
// of them is there.
func TestMergeInAnyOrder(t *testing.T) {
	random := rand.New(rand.NewSource(10))
	for range 500 {
		l := [][]api.Count{random16(random), random16(random), random16(random), nil}
		m, _ := vector.Merge(l...)
		l = append(l, l[random.Intn(len(l))], m)
		random.Shuffle(len(l), func(i, j int) { l[i], l[j] = l[j], l[i] })
		again, e := vector.Merge(l...)
		if e != api.OK {
			t.Error(e)
		}
		same(t, "Merge in another order", again, m)
	}
}

// P8.3: Order is a total order, in which what is before is less.
func TestTotalOrder(t *testing.T) {
	l := someVectors()
	for _, a := range l {
		for _, b := range l {
			c := vector.Order(a, b)
			if c != -vector.Order(b, a) || (c == 0) != (vector.Compare(a, b) == api.CmpSame) {
				t.Errorf("%v and %v: %d, and %d", a, b, c, vector.Order(b, a))
			}
			if vector.Compare(a, b) == api.CmpBefore && c != -1 {
				t.Errorf("%v is before %v, but not less", a, b)
			}
			if c != -1 {
				continue
			}
			for _, d := range l {
				if vector.Order(b, d) == -1 && vector.Order(a, d) != -1 {
					t.Errorf("%v is less than %v, and this less than %v", a, b, d)
				}
			}
		}
	}
}
