package wal

import "packtrain/api"

// broken is the error that broke what embeds it, and OK before that.
type broken api.Errno

// do executes steps until one has an error. After that error none is executed
// any more, and it is what is returned: nobody knows what the file has then.
func (b *broken) do(steps ...func() api.Errno) api.Errno {
	for _, step := range steps {
		if *b == broken(api.OK) {
			*b = broken(step())
		}
	}
	return api.Errno(*b)
}
