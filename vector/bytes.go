package vector

import (
	"packtrain/api"
	"packtrain/wire"
)

// Bytes returns the vector as a list of devices and values.
func Bytes(v []api.Count) ([]byte, api.Errno) {
	if e := Check(v); e != api.OK {
		return nil, e
	}
	b := wire.Number(nil, uint64(len(v)))
	for _, c := range v {
		b = wire.Number(b, uint64(c.Device))
		b = wire.Number(b, c.Value)
	}
	return b, api.OK
}

// Read returns the vector whose bytes are b, and ErrBad if there is none.
func Read(b []byte) ([]api.Count, api.Errno) {
	r := wire.New(b)
	var v []api.Count
	for range r.Count(api.MaxDevices) {
		v = append(v, api.Count{Device: r.Count(api.MaxDevices), Value: r.Number()})
	}
	if r.End() != api.OK || Check(v) != api.OK {
		return nil, api.ErrBad
	}
	return v, api.OK
}
