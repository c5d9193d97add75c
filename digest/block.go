package digest

// turn is by how many bits a word is rotated or shifted.
type turn uint

// wordBits is how many bits a word has.
const wordBits turn = 32

// The chapter's turns of a word.
const (
	big0A, big0B, big0C          turn = 2, 13, 22
	big1A, big1B, big1C          turn = 6, 11, 25
	small0A, small0B, small0Drop turn = 7, 18, 3
	small1A, small1B, small1Drop turn = 17, 19, 10
)

// Block returns the state s after the block b.
func Block(s [8]uint32, b [64]byte) [8]uint32 {
	return mixed(s, b, Constants())
}

// mixed returns the state s after a block, with the constants k: they are an
// argument so that a call with many blocks computes them once.
func mixed(s [8]uint32, block [blockSize]byte, k [64]uint32) [8]uint32 {
	w := schedule(block)
	a, b, c, d, e, f, g, h := s[0], s[1], s[2], s[3], s[4], s[5], s[6], s[7]
	for t := range w {
		t1 := h + big1(e) + choose(e, f, g) + k[t] + w[t]
		t2 := big0(a) + most(a, b, c)
		a, b, c, d, e, f, g, h = t1+t2, a, b, c, d+t1, e, f, g
	}
	for i, x := range [8]uint32{a, b, c, d, e, f, g, h} {
		s[i] += x
	}
	return s
}

// schedule returns the words W of a block.
func schedule(block [blockSize]byte) [64]uint32 {
	var w [64]uint32
	for i, c := range block {
		w[i/4] = w[i/4]<<8 | uint32(c)
	}
	for t := 16; t < len(w); t++ {
		w[t] = small1(w[t-2]) + w[t-7] + small0(w[t-15]) + w[t-16]
	}
	return w
}

// rotated returns x rotated right by each of the turns, xored.
func rotated(x uint32, by ...turn) uint32 {
	y := uint32(0)
	for _, n := range by {
		y ^= x>>n | x<<(wordBits-n)
	}
	return y
}

// The chapter's functions of words.

func big0(x uint32) uint32 {
	return rotated(x, big0A, big0B, big0C)
}

func big1(x uint32) uint32 {
	return rotated(x, big1A, big1B, big1C)
}

func small0(x uint32) uint32 {
	return rotated(x, small0A, small0B) ^ x>>small0Drop
}

func small1(x uint32) uint32 {
	return rotated(x, small1A, small1B) ^ x>>small1Drop
}

func choose(x, y, z uint32) uint32 {
	return x&y | ^x&z
}

func most(x, y, z uint32) uint32 {
	return x&y | x&z | y&z
}
