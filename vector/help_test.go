package vector_test

import (
	"cmp"
	"math"
	"math/big"
	"math/rand"
	"slices"
	"strconv"
	"strings"
	"testing"

	"packtrain/api"
)

// max64 is the greatest value.
const max64 = math.MaxUint64

// vec is the counts of a text such as "1:2 3:1", whether they are valid or not;
// max is the greatest value.
func vec(s string) []api.Count {
	var v []api.Count
	for _, word := range strings.Fields(s) {
		device, value, _ := strings.Cut(word, ":")
		c := api.Count{Value: max64}
		var e1, e2 error
		c.Device, e1 = strconv.Atoi(device)
		if value != "max" {
			c.Value, e2 = strconv.ParseUint(value, 10, 64)
		}
		if e1 != nil || e2 != nil {
			panic("no counts: " + s)
		}
		v = append(v, c)
	}
	return v
}

// invalid are counts that are no vector.
func invalid() [][]api.Count {
	many := all(1)
	return [][]api.Count{
		vec("0:1"), vec("17:1"), vec("-1:1"), vec("18:max"), vec("256:1"), vec("65537:1"),
		{{Device: math.MinInt, Value: 1}}, {{Device: math.MaxInt, Value: 1}}, {{Device: 1 << 32, Value: 1}}, {{Device: 1<<32 + 1, Value: 1}},
		vec("1:0"), vec("16:0"), vec("0:0"), vec("1:1 2:0"), vec("1:0 2:1"), vec("1:1 2:0 3:1"),
		vec("1:1 1:1"), vec("1:1 1:2"), vec("1:2 1:1"), vec("16:1 16:1"), vec("1:1 2:1 2:1"), vec("1:1 1:1 2:1"),
		vec("2:1 1:1"), vec("16:1 1:1"), vec("1:1 3:1 2:1"), vec("2:1 3:1 1:1"), vec("1:1 2:1 1:1"),
		vec("0:1 1:1"), vec("-1:1 0:1"), vec("16:1 17:1"), vec("1:1 17:1"), vec("1:1 0:1"), vec("1:1 -1:1"), vec("17:1 1:1"),
		append(slices.Clone(many), many...), append(slices.Clone(many), vec("17:1")...), append(slices.Clone(many), vec("16:1")...),
	}
}

// all is the vector that has this value for each device.
func all(value uint64) []api.Count {
	var v []api.Count
	for i := range 16 {
		v = append(v, api.Count{Device: i + 1, Value: value})
	}
	return v
}

// values are those of each device, by its number: the chapter's vector, with
// the zeros that its counts leave out.
type values [17]uint64

// of are the values of a vector.
func of(v []api.Count) values {
	var x values
	for _, c := range v {
		x[c.Device] = c.Value
	}
	return x
}

// vector is the vector with these values.
func (x values) vector() []api.Count {
	var v []api.Count
	for device, value := range x {
		if value > 0 {
			v = append(v, api.Count{Device: device, Value: value})
		}
	}
	return v
}

// within tells whether no value of x is above that of y.
func (x values) within(y values) bool {
	for device := range x {
		if x[device] > y[device] {
			return false
		}
	}
	return true
}

// relation is what Compare returns.
func (x values) relation(y values) int {
	switch {
	case x == y:
		return 1
	case x.within(y):
		return 2
	case y.within(x):
		return 3
	}
	return 4
}

// sum is the sum of all values, without a bound.
func (x values) sum() *big.Int {
	sum := new(big.Int)
	for _, value := range x {
		sum.Add(sum, new(big.Int).SetUint64(value))
	}
	return sum
}

// order is what Order returns.
func (x values) order(y values) int {
	return cmp.Or(x.sum().Cmp(y.sum()), slices.Compare(x[:], y[:]))
}

// merge is what Merge returns.
func merge(l ...[]api.Count) []api.Count {
	var x values
	for _, v := range l {
		for _, c := range v {
			x[c.Device] = max(x[c.Device], c.Value)
		}
	}
	return x.vector()
}

// text is what Text returns.
func text(v []api.Count) string {
	s := ""
	for _, c := range v {
		s += " " + strconv.Itoa(c.Device) + ":" + new(big.Int).SetUint64(c.Value).String()
	}
	return strings.TrimPrefix(s, " ")
}

// number is a number as layer 1 encodes it, by digits of base 128.
func number(x *big.Int) []byte {
	rest, digit := new(big.Int).Set(x), new(big.Int)
	var b []byte
	for last := true; last || rest.Sign() > 0; last = false {
		rest.DivMod(rest, big.NewInt(128), digit)
		c := byte(digit.Uint64())
		if !last {
			c += 128
		}
		b = slices.Insert(b, 0, c)
	}
	return b
}

// list is the encoding of a list of numbers of which two are an element.
func list(l ...uint64) []byte {
	b := number(big.NewInt(int64(len(l) / 2)))
	for _, x := range l {
		b = append(b, number(new(big.Int).SetUint64(x))...)
	}
	return b
}

// encoded is what Bytes returns.
func encoded(v []api.Count) []byte {
	var l []uint64
	for _, c := range v {
		l = append(l, uint64(c.Device), c.Value)
	}
	return list(l...)
}

// decoded is what Read returns. It reads numbers as they come, whether they
// are well encoded or not, and asks in the end whether they are those of a
// vector whose encoding is b.
func decoded(b []byte) (v []api.Count, ok bool) {
	var l []*big.Int
	x := new(big.Int)
	for _, c := range b {
		x.Add(x.Lsh(x, 7), big.NewInt(int64(c&127)))
		if c < 128 {
			l = append(l, x)
			x = new(big.Int)
		}
	}
	if len(l)%2 == 0 {
		return nil, false
	}
	last := int64(0)
	for i := 1; i < len(l); i += 2 {
		device, value := l[i], l[i+1]
		if device.Cmp(big.NewInt(last)) <= 0 || device.Cmp(big.NewInt(16)) > 0 || value.Sign() == 0 || !value.IsUint64() {
			return nil, false
		}
		last = device.Int64()
		v = append(v, api.Count{Device: int(last), Value: value.Uint64()})
	}
	if string(encoded(v)) != string(b) {
		return nil, false
	}
	return v, true
}

// few are all vectors of three devices with few values, among them the greatest
// one.
func few() [][]api.Count {
	var l [][]api.Count
	some := []uint64{0, 1, 2, max64}
	for _, a := range some {
		for _, b := range some {
			for _, c := range some {
				l = append(l, values{1: a, 3: b, 16: c}.vector())
			}
		}
	}
	return l
}

// random16 is a vector of up to 16 devices; values are often small, so that they are often equal, and
// often near an edge.
func random16(random *rand.Rand) []api.Count {
	var x values
	for device := 1; device <= 16; device++ {
		switch random.Intn(8) {
		case 0, 1:
			x[device] = uint64(random.Intn(3))
		case 2:
			x[device] = max64 - uint64(random.Intn(3))
		case 3:
			x[device] = random.Uint64() >> random.Intn(64)
		case 4:
			x[device] = 1<<random.Intn(64) - uint64(random.Intn(2))
		}
	}
	return x.vector()
}

// near is a vector that differs from v at few devices, so that two that are not
// concurrent are often met.
func near(random *rand.Rand, v []api.Count) []api.Count {
	x := of(v)
	for range random.Intn(3) {
		x[1+random.Intn(16)] += uint64(random.Intn(3)) - 1
	}
	return x.vector()
}

// same compares counts; nil and empty are the same.
func same(t *testing.T, what string, got, want []api.Count) {
	t.Helper()
	if !slices.Equal(got, want) {
		t.Errorf("%s: %v, not %v", what, got, want)
	}
}

// roomy is v with spare capacity that no function may touch.
func roomy(v []api.Count) []api.Count {
	room := slices.Concat(v, vec("7:77 8:88 9:99"))
	return room[:len(v)]
}

// untouched checks that v, which roomy returned, is what it was.
func untouched(t *testing.T, what string, v, before []api.Count) {
	t.Helper()
	same(t, what+": an argument", v, before)
	same(t, what+": the spare capacity of an argument", v[len(v):cap(v)][:3], vec("7:77 8:88 9:99"))
}

// spoil changes counts, and what their spare capacity has.
func spoil(v []api.Count) {
	v = v[:cap(v)]
	for i := range v {
		v[i] = api.Count{Device: -1, Value: 5}
	}
}
