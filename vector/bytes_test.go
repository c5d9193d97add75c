package vector_test

import (
	"bytes"
	"math/rand"
	"testing"

	"packtrain/api"
	"packtrain/vector"
)

// reads checks that Read returns what decoded does, and whether that is a vector.
func reads(t *testing.T, b []byte) bool {
	t.Helper()
	want, ok := decoded(b)
	before := bytes.Clone(b)
	got, e := vector.Read(b)
	if ok != (e == api.OK) || !ok && (e != api.ErrBad || len(got) > 0) {
		t.Errorf("Read of %v: %v, %d", b, got, e)
	}
	same(t, "Read", got, want)
	if !bytes.Equal(b, before) {
		t.Errorf("Read of %v changed it to %v", before, b)
	}
	return ok
}

// P8.2: Bytes, and Read of them.
func TestBytes(t *testing.T) {
	random := rand.New(rand.NewSource(6))
	l := append(few(), nil, []api.Count{}, all(1), all(127), all(128), all(max64))
	for range 2000 {
		l = append(l, random16(random))
	}
	for _, v := range l {
		b, e := vector.Bytes(v)
		if e != api.OK || !bytes.Equal(b, encoded(v)) {
			t.Fatalf("Bytes of %v: %v, %d", v, b, e)
		}
		if !reads(t, b) {
			t.Fatalf("the bytes of %v are not read", v)
		}
	}
	for s, want := range map[string][]byte{
		"":             {0},
		"1:1":          {1, 1, 1},
		"2:300 16:127": {2, 2, 130, 44, 16, 127},
	} {
		if b, e := vector.Bytes(vec(s)); e != api.OK || !bytes.Equal(b, want) {
			t.Errorf("Bytes of %q: %v, %d", s, b, e)
		}
	}
}

// P8.2: lists of numbers that are no vector.
func TestReadOfNoVector(t *testing.T) {
	for _, v := range invalid() {
		if reads(t, encoded(v)) {
			t.Errorf("%v is a vector", v)
		}
	}
	for _, b := range [][]byte{
		nil, {}, {1}, {1, 1}, {128}, {128, 0}, {128, 1, 1, 1}, {1, 128, 1, 1}, {1, 1, 128, 1}, {1, 1, 129},
		{0, 0}, {1, 1, 1, 0}, {1, 1, 1, 2, 1}, {2, 1, 1}, {2, 1, 1, 2}, {1, 0, 1}, {1, 17, 1}, {1, 1, 0},
		{1, 1, 130, 128, 128, 128, 128, 128, 128, 128, 128, 0},     // the value 2^64
		{1, 130, 128, 128, 128, 128, 128, 128, 128, 128, 1, 1},     // the device 2^64 + 1
		{130, 128, 128, 128, 128, 128, 128, 128, 128, 1, 1, 1},     // 2^64 + 1 elements
		{129, 255, 255, 255, 255, 255, 255, 255, 255, 127, 1, 1},   // 2^64 - 1 elements
		append([]byte{16}, bytes.Repeat([]byte{1, 1}, 16)...),      // one device only
		append([]byte{129, 0}, bytes.Repeat([]byte{1, 1}, 128)...), // 128 elements
		append(encoded(all(1)), 17, 1),                             // 17 elements, of which 16 are told
		append([]byte{17}, append(encoded(all(1))[1:], 17, 1)...),  // 17 elements
		append(encoded(all(max64)), encoded(all(max64))...),        // two vectors
		list(1<<64-1, 1), list(1<<32+1, 1), list(1<<63+1, 1), // devices that fewer bits would make 1
		list(1<<64-16, 1), list(1, 1, 1<<64-16, 1), list(1<<64-1, 0), // and negative ones
	} {
		if reads(t, b) {
			t.Errorf("%v is a vector", b)
		}
	}
	for _, c := range []byte{0, 1, 16, 128, 255} {
		if v, e := vector.Read(bytes.Repeat([]byte{c}, 1<<20)); e != api.ErrBad || len(v) > 0 {
			t.Errorf("Read of many bytes %d: %v, %d", c, v, e)
		}
	}
}

// P8.2: the bytes of a vector, cut anywhere, and with bytes behind them, which
// may be in spare capacity.
func TestReadOfParts(t *testing.T) {
	for _, v := range [][]api.Count{nil, vec("1:1"), vec("2:300 16:max"), all(max64), all(1)} {
		b := encoded(v)
		for n := range b {
			if reads(t, b[:n]) {
				t.Errorf("%d bytes of %v are read", n, b)
			}
		}
		for _, c := range []byte{0, 1, 128, 255} {
			if reads(t, append(bytes.Clone(b), c)) {
				t.Errorf("%v with %d is read", b, c)
			}
		}
	}
}

// P8.2 and T6: no other bytes encode a vector. All short ones are read, and many
// of which one byte was changed.
func TestNoOtherBytesAreAVector(t *testing.T) {
	read := 0
	for a := range 256 {
		for b := range 256 {
			reads(t, []byte{byte(a), byte(b)})
			if reads(t, []byte{1, byte(a), byte(b)}) {
				read++
			}
		}
		reads(t, []byte{byte(a)})
	}
	if read != 16*127 {
		t.Errorf("%d vectors of one count have 3 bytes", read)
	}
	some := []byte{0, 1, 2, 3, 15, 16, 17, 127, 128, 129, 255}
	for n, l := 0, [][]byte{{}}; n < 5; n++ {
		var longer [][]byte
		for _, b := range l {
			for _, c := range some {
				longer = append(longer, append(bytes.Clone(b), c))
			}
		}
		for _, b := range longer {
			reads(t, b)
		}
		l = longer
	}
	random := rand.New(rand.NewSource(7))
	for range 20000 {
		b := encoded(random16(random))
		b[random.Intn(len(b))] ^= 1 << random.Intn(8)
		reads(t, b)
	}
}

// Rule 3: Read keeps nothing of what it read.
func TestReadKeepsNothing(t *testing.T) {
	b := append(make([]byte, 0, 100), encoded(all(300))...)
	v, _ := vector.Read(b)
	clear(b[:cap(b)])
	same(t, "Read", v, all(300))
	w, _ := vector.Bytes(v)
	spoil(v)
	if !bytes.Equal(w, encoded(all(300))) {
		t.Error(w)
	}
}
