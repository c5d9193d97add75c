package path

import (
	"strings"

	"packtrain/api"
)

// tempFolder is no name: so no path of a temporary file is a path.
const tempFolder = ".tmp"

// Temp returns the path of the temporary file of s.
func Temp(s string) (string, api.Errno) {
	if e := Check(s); e != api.OK {
		return "", e
	}
	return string(text(tempFolder).with(text(s))), api.OK
}

// Temped returns the path of whose temporary file the path is s, and whether
// it is one.
func Temped(s string) (string, bool) {
	p, ok := strings.CutPrefix(s, tempFolder+"/")
	if !ok || Check(p) != api.OK {
		return "", false
	}
	return text(p).own(), true
}
