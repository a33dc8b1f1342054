package digest

import "chatelaine/api"

// Hash is told bytes piece by piece. It keeps only those that do not fill a group yet.
type Hash struct {
	words  [8]uint32
	rest   [groupSize]byte
	length uint64
}

// New has been told nothing.
func New() *Hash {
	return &Hash{words: firstWords()}
}

// Write tells it more.
func (h *Hash) Write(b []byte) {
	held := h.held()
	h.length += uint64(len(b))
	if held > 0 {
		n := copy(h.rest[held:], b)
		if held+n < groupSize {
			return
		}
		h.words = mix(h.words, h.rest[:])
		b = b[n:]
	}
	for len(b) >= groupSize {
		h.words = mix(h.words, b[:groupSize])
		b = b[groupSize:]
	}
	copy(h.rest[:], b)
}

// Sum is the digest of all it was told. The end is laid in a copy, as more may be told afterwards.
func (h *Hash) Sum() api.Digest {
	last, size := h.lastGroups()
	words := h.words
	for at := 0; at < size; at += groupSize {
		words = mix(words, last[at:at+groupSize])
	}
	var d api.Digest
	for i := range words {
		putWord(d[4*i:], words[i])
	}
	return d
}

// held is how many bytes of rest count.
func (h *Hash) held() int { return int(h.length % groupSize) }

// lastGroups is the padded end of the input, and its size: two groups where the length has no room behind the rest.
func (h *Hash) lastGroups() ([2 * groupSize]byte, int) {
	var last [2 * groupSize]byte
	n := copy(last[:], h.rest[:h.held()])
	last[n] = 128
	size := groupSize
	if n+1+lengthSize > groupSize {
		size = 2 * groupSize
	}
	bitLength := 8 * h.length
	putWord(last[size-8:], uint32(bitLength>>32))
	putWord(last[size-4:], uint32(bitLength))
	return last, size
}
