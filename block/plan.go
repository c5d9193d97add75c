package block

import (
	"slices"

	"packtrain/api"
)

// none is the index of a file that does not exist.
const none = -1

// Plan returns for each block where it exists first in the files.
func Plan(l api.List, have []api.List) ([]api.Source, api.Errno) {
	if e := Check(l); e != api.OK {
		return nil, e
	}
	for _, file := range have {
		if e := Check(file); e != api.OK {
			return nil, e
		}
	}
	exists := firsts(have)
	var p []api.Source
	for n := range l.Digests {
		source, ok := exists[blockKey(l, n)]
		if !ok {
			source.File = none
		}
		p = append(p, source)
	}
	return p, api.OK
}

// Wanted returns the digests of the blocks that exist in no file.
func Wanted(p []api.Source, l api.List) []api.Digest {
	if len(p) != len(l.Digests) {
		return nil
	}
	var wanted []api.Digest
	told := map[api.Digest]struct{}{}
	for n, d := range l.Digests {
		if _, ok := told[d]; ok || p[n].File != none {
			continue
		}
		told[d] = struct{}{}
		wanted = append(wanted, d)
	}
	return wanted
}

// key is the digest of a block and, behind it, its length, because a list may
// say of blocks of different lengths that they have the same digest.
type key [len(api.Digest{}) + 3]byte

// blockKey returns the key of block n.
func blockKey(l api.List, n int) key {
	from, to, _ := At(l, n)
	length := to - from
	k := key{len(api.Digest{}): byte(length >> 16), byte(length >> 8), byte(length)}
	copy(k[:], l.Digests[n][:])
	return k
}

// firsts returns where each block is first. The files are gone through from the
// last to the first, so that what is earlier replaces what is later.
func firsts(files []api.List) map[key]api.Source {
	first := map[key]api.Source{}
	for file, l := range slices.Backward(files) {
		for n := range slices.Backward(l.Digests) {
			first[blockKey(l, n)] = api.Source{File: file, Block: n}
		}
	}
	return first
}
