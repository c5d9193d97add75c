package path

import (
	"strings"

	"packtrain/api"
)

const (
	maxName  = 24 // bytes of a name
	maxNames = 4  // of a path
)

// letters are the bytes of a name.
const letters = "abcdefghijklmnopqrstuvwxyz0123456789-_."

// text is a path, or a part of one. Its methods that take it apart return a
// part of the same string, so that own ends each chain of them.
type text string

// isName tells whether t is a name.
func (t text) isName() bool {
	if len(t) < 1 || len(t) > maxName || t[0] == '.' {
		return false
	}
	for _, c := range []byte(t) {
		if strings.IndexByte(letters, c) < 0 {
			return false
		}
	}
	return true
}

// isNames tells whether t is as many names as a path may have, with / between
// them.
func (t text) isNames() bool {
	rest := string(t)
	for range maxNames {
		name, after, more := strings.Cut(rest, "/")
		if !text(name).isName() {
			return false
		}
		if !more {
			return true
		}
		rest = after
	}
	return false
}

// pathOrNothing returns t if it is a path, and nothing if it is not: then all
// its parts are nothing, too.
func (t text) pathOrNothing() text {
	if Check(string(t)) != api.OK {
		return ""
	}
	return t
}

// folder returns what comes before the last /, and nothing without one.
func (t text) folder() text {
	return t[:max(strings.LastIndexByte(string(t), '/'), 0)]
}

// base returns what comes after the last /, and everything without one.
func (t text) base() text {
	return t[strings.LastIndexByte(string(t), '/')+1:]
}

// stem returns what comes before the last point, and everything without one.
func (t text) stem() text {
	if point := strings.LastIndexByte(string(t), '.'); point >= 0 {
		return t[:point]
	}
	return t
}

// ending returns the last point with what follows it.
func (t text) ending() text {
	return t[len(t.stem()):]
}

// with returns the path whose folder is t, and which has this base.
func (t text) with(base text) text {
	if t == "" {
		return base
	}
	return t + "/" + base
}

// number returns the number that t is in decimal without leading zeros, and
// whether it is one, and not below least, and not above most.
func (t text) number(least, most int) (n int, ok bool) {
	read := 0
digits:
	for _, c := range []byte(t) {
		next := 10*n + int(c) - '0'
		switch {
		case c < '0' || c > '9':
			break digits
		case read > 0 && n == 0:
			// Leading zeros would be a second way to write the number.
			break digits
		case next > most:
			break digits
		}
		n = next
		read++
	}
	if read == 0 || read < len(t) || n < least {
		return 0, false
	}
	return n, true
}

// own returns t as a string of its own, because what is returned to a caller
// is not a part of what the caller passed.
func (t text) own() string {
	return strings.Clone(string(t))
}
