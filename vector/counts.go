package vector

import (
	"cmp"

	"packtrain/api"
)

// counts are those of a vector. The methods but valid and value are meant for
// valid ones.
type counts []api.Count

// isDevice tells whether a device may have this number.
func isDevice(device int) bool {
	return device >= 1 && device <= api.MaxDevices
}

// valid tells whether these are the counts of a vector.
func (v counts) valid() bool {
	last := 0
	for _, c := range v {
		if !isDevice(c.Device) || c.Device <= last || c.Value == 0 {
			return false
		}
		last = c.Device
	}
	return true
}

// value returns the value of the first count of the device, and 0 if there is
// none.
func (v counts) value(device int) uint64 {
	for _, c := range v {
		if c.Device == device {
			return c.Value
		}
	}
	return 0
}

// pair is the values that two vectors have at a device.
type pair struct {
	device       int
	mine, theirs uint64
}

// against returns the values of v and of others at each device of which one of
// them has a count, ascending.
func (v counts) against(others counts) []pair {
	var both []pair
next:
	for _, c := range v {
		for len(others) > 0 && others[0].Device <= c.Device {
			other := others[0]
			others = others[1:]
			if other.Device == c.Device {
				both = append(both, pair{c.Device, c.Value, other.Value})
				continue next
			}
			both = append(both, pair{other.Device, 0, other.Value})
		}
		both = append(both, pair{c.Device, c.Value, 0})
	}
	for _, other := range others {
		both = append(both, pair{other.Device, 0, other.Value})
	}
	return both
}

// merged returns the greater value of v and others for each device.
func (v counts) merged(others counts) counts {
	var all counts
	for _, p := range v.against(others) {
		all = append(all, api.Count{Device: p.device, Value: max(p.mine, p.theirs)})
	}
	return all
}

// difference compares the values at the smallest device at which v and others
// differ; it returns 0 if there is none.
func (v counts) difference(others counts) int {
	for _, p := range v.against(others) {
		if p.mine != p.theirs {
			return cmp.Compare(p.mine, p.theirs)
		}
	}
	return 0
}

// sum returns the sum of all values.
func (v counts) sum() sum {
	var all sum
	for _, c := range v {
		all = all.plus(c.Value)
	}
	return all
}
