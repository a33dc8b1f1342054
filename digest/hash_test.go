package digest_test

import (
	"crypto/sha256"
	"testing"

	"chatelaine/api"
	"chatelaine/digest"
)

func sumOfPieces(pieces ...[]byte) api.Digest {
	h := digest.New()
	for _, p := range pieces {
		h.Write(p)
	}
	return h.Sum()
}

func TestHashWithoutInput(t *testing.T) {
	h := digest.New()
	if h == nil {
		t.Fatal("P1.4: New returns nil")
	}
	if h.Sum() != digest.Sum(nil) {
		t.Error("P1.4: a new Hash has input")
	}
	h.Write(nil)
	h.Write([]byte{})
	if h.Sum() != digest.Sum(nil) {
		t.Error("P1.4: nothing that is written changes the Sum")
	}
}

func TestHashGoesOnAfterSum(t *testing.T) {
	b := filler(200)
	h := digest.New()
	for i := range b {
		if h.Sum() != digest.Sum(b[:i]) || h.Sum() != digest.Sum(b[:i]) {
			t.Fatalf("P1.4: Sum of the first %d bytes", i)
		}
		h.Write(b[i : i+1])
	}
	if h.Sum() != digest.Sum(b) {
		t.Error("P1.4: Sum of all")
	}
}

func TestHashesAreApart(t *testing.T) {
	b := filler(150)
	g, h := digest.New(), digest.New()
	g.Write(b[:70])
	h.Write(b[70:])
	g.Sum()
	g.Write(b[70:])
	if g.Sum() != digest.Sum(b) || h.Sum() != digest.Sum(b[70:]) {
		t.Error("P1.4: one Hash changes another")
	}
}

// An input whose number of bits needs more than one word.
func TestHashOfHugeInput(t *testing.T) {
	piece := filler(1 << 20)
	h, other := digest.New(), sha256.New()
	for range 1<<9 + 1 {
		h.Write(piece)
		other.Write(piece)
	}
	if h.Sum() != api.Digest(other.Sum(nil)) {
		t.Error("P1.1: Sum of more than 2^29 bytes")
	}
}

// A Hash must not keep what it was given: its writer may go on to use that memory.
func TestHashKeepsNoArgument(t *testing.T) {
	for _, n := range []int{1, 63, 64, 65, 100, 128, 129} {
		b := filler(n)
		want := digest.Sum(b)
		h := digest.New()
		h.Write(b)
		for i := range b {
			b[i] = 0
		}
		if h.Sum() != want {
			t.Errorf("R6: %d bytes that were written are still shared", n)
		}
	}
}

func TestSumBelongsToCaller(t *testing.T) {
	h := digest.New()
	h.Write([]byte("abc"))
	d := h.Sum()
	d[0]++
	if h.Sum() != digest.Sum([]byte("abc")) {
		t.Error("R6: writing into a Digest changes the Hash")
	}
}

func TestPiecesDoNotMatter(t *testing.T) {
	b := filler(200)
	want := digest.Sum(b)
	for i := range len(b) + 1 {
		for j := i; j <= len(b); j++ {
			if sumOfPieces(b[:i], b[i:j], b[j:]) != want {
				t.Fatalf("P1.5: divided at %d and %d", i, j)
			}
		}
	}
}

func TestEqualPiecesDoNotMatter(t *testing.T) {
	b := filler(260)
	for size := 1; size <= len(b); size++ {
		h := digest.New()
		for at := 0; at < len(b); at += size {
			h.Write(b[at:min(at+size, len(b))])
		}
		if h.Sum() != digest.Sum(b) {
			t.Errorf("P1.5: pieces of %d bytes", size)
		}
	}
}

func TestZerosBehindKeyDoNotMatter(t *testing.T) {
	b := filler(90)
	for n := range 65 {
		key := filler(n)
		want := digest.Mac(key, b)
		for len(key) < 64 {
			key = append(key, 0)
			if digest.Mac(key, b) != want {
				t.Fatalf("P1.5: a key of %d bytes, with 0 to %d bytes", n, len(key))
			}
		}
		if digest.Mac(append(key, 0), b) == want {
			t.Errorf("P1.5: a key of %d bytes, with 0 to 65 bytes", n)
		}
	}
}
