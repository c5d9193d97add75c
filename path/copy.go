package path

import (
	"strconv"
	"strings"

	"packtrain/api"
)

const (
	minDevice = 1
	maxDevice = 99
	minNumber = 0
	maxNumber = 999
)

// Copy returns the path of the conflict copy of s with that device and number.
func Copy(s string, device, number int) (string, api.Errno) {
	if e := Check(s); e != api.OK {
		return "", e
	}
	if device < minDevice || device > maxDevice || number < minNumber || number > maxNumber {
		return "", api.ErrArg
	}
	base := text(s).base()
	c := text(s).folder().with(base.stem() + mark(device, number) + base.ending())
	// A name may be too long in a path that is not: Check calls that ErrArg.
	if Check(string(c)) != api.OK {
		return "", api.ErrLong
	}
	return c.own(), api.OK
}

// Copied returns the path, device and number of whose conflict copy the path
// is s, and whether it is one.
func Copied(s string) (path string, device, number int, ok bool) {
	p := text(s).pathOrNothing()
	stem, m, ending := p.base().parts()
	device, number, ok = m.marked()
	if !ok {
		return "", 0, 0, false
	}
	return p.folder().with(stem + ending).own(), device, number, true
}

// mark returns what a conflict copy has between its stem and its ending.
func mark(device, number int) text {
	return text(".c" + strconv.Itoa(device) + "-" + strconv.Itoa(number))
}

// parts returns the three parts of the base t of a conflict copy: the stem and
// the ending of the original one, and what is between them. An ending has one
// point, and so has a mark: without a second point there was no ending.
func (t text) parts() (stem, mark, ending text) {
	if t.stem().ending() == "" {
		return t.stem(), t.ending(), ""
	}
	return t.stem().stem(), t.stem().ending(), t.ending()
}

// marked returns the device and the number whose mark is t, and whether there
// are such.
func (t text) marked() (device, number int, ok bool) {
	rest, isMark := strings.CutPrefix(string(t), ".c")
	first, second, _ := strings.Cut(rest, "-")
	device, isDevice := text(first).number(minDevice, maxDevice)
	number, isNumber := text(second).number(minNumber, maxNumber)
	if !isMark || !isDevice || !isNumber {
		return 0, 0, false
	}
	return device, number, true
}
