// Package digest is layer 1: SHA-256 digests, and codes with a key (HMAC). See shared/doc/01-digest.md.
package digest

import "chatelaine/api"

// The bytes that a key is mixed with: differing ones, so that the inner and the outer digest never start alike.
const (
	outerMask = 92
	innerMask = 54
)

// Sum is the digest of bytes.
func Sum(b []byte) api.Digest {
	h := New()
	h.Write(b)
	return h.Sum()
}

// Mac is the digest of bytes with a key.
func Mac(key, b []byte) api.Digest {
	group := keyGroup(key)
	inner := sumBehind(masked(group, innerMask), b)
	return sumBehind(masked(group, outerMask), inner[:])
}

// Same tells whether bytes are the same. It never stops at the first difference, as the time it takes would tell a forger how much he has guessed.
func Same(a, b []byte) bool {
	differ := len(a) ^ len(b)
	for i := range min(len(a), len(b)) {
		differ |= int(a[i] ^ b[i])
	}
	return differ == 0
}

// keyGroup makes a key of any length fill one group.
func keyGroup(key []byte) [groupSize]byte {
	var group [groupSize]byte
	if len(key) > groupSize {
		short := Sum(key)
		copy(group[:], short[:])
	} else {
		copy(group[:], key)
	}
	return group
}

func masked(group [groupSize]byte, mask byte) [groupSize]byte {
	for i := range groupSize {
		group[i] ^= mask
	}
	return group
}

// sumBehind is the digest of a group followed by bytes, without a joint copy of both.
func sumBehind(group [groupSize]byte, b []byte) api.Digest {
	h := New()
	h.Write(group[:])
	h.Write(b)
	return h.Sum()
}
