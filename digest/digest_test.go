package digest_test

import (
	"bytes"
	"crypto/hmac"
	"crypto/sha256"
	"encoding/hex"
	"strings"
	"testing"

	"chatelaine/api"
	"chatelaine/digest"
)

// filler is bytes without a period of 64, so that groups that change places are seen.
func filler(many int) []byte {
	b := make([]byte, many)
	x := uint32(2463534242)
	for i := range b {
		x ^= x << 13
		x ^= x >> 17
		x ^= x << 5
		b[i] = byte(x >> 24)
	}
	return b
}

func inHex(d api.Digest) string { return hex.EncodeToString(d[:]) }

func bare(s string) string { return strings.ReplaceAll(s, " ", "") }

func TestSumOfKnownInputs(t *testing.T) {
	cases := []struct{ name, in, want string }{
		{"nothing", "", "e3b0c442 98fc1c14 9afbf4c8 996fb924 27ae41e4 649b934c a495991b 7852b855"},
		{"abc", "abc", "ba7816bf 8f01cfea 414140de 5dae2223 b00361a3 96177a9c b410ff61 f20015ad"},
		{"56 bytes", "abcdbcdecdefdefgefghfghighijhijkijkljklmklmnlmnomnopnopq", "248d6a61 d20638b8 e5c02693 0c3e6039 a33ce459 64ff2167 f6ecedd4 19db06c1"},
		{"a million", strings.Repeat("a", 1000000), "cdc76e5c 9914fb92 81a1c7e2 84d73e67 f1809a48 a497200e 046d39cc c7112cd0"},
	}
	for _, c := range cases {
		if got := inHex(digest.Sum([]byte(c.in))); got != bare(c.want) {
			t.Errorf("P1.1: Sum of %s: %s, want %s", c.name, got, bare(c.want))
		}
	}
	if digest.Sum(nil) != digest.Sum([]byte{}) {
		t.Error("P1.1: nil and no bytes differ")
	}
}

// Every length about the multiples of 64, where the padding takes one group or two.
func TestSumOfEveryLength(t *testing.T) {
	b := filler(4*64 + 2)
	for n := range len(b) + 1 {
		if digest.Sum(b[:n]) != api.Digest(sha256.Sum256(b[:n])) {
			t.Errorf("P1.1: Sum of %d bytes", n)
		}
	}
}

func TestSumOfEveryByte(t *testing.T) {
	for x := range 256 {
		b := []byte{byte(x)}
		if digest.Sum(b) != api.Digest(sha256.Sum256(b)) {
			t.Errorf("P1.1: Sum of the byte %d", x)
		}
	}
}

// A length whose number of bits needs four bytes.
func TestSumOfLongInput(t *testing.T) {
	b := filler(1<<21 + 1)
	if digest.Sum(b) != api.Digest(sha256.Sum256(b)) {
		t.Error("P1.1: Sum of 2^21 + 1 bytes")
	}
}

func TestMacOfKnownInputs(t *testing.T) {
	long := strings.Repeat("\xaa", 131)
	cases := []struct{ name, key, in, want string }{
		{"Jefe", "Jefe", "what do ya want for nothing?", "5bdcc146 bf60754e 6a042426 089575c7 5a003f08 9d273983 9dec58b9 64ec3843"},
		{"a key of 20 bytes", strings.Repeat("\x0b", 20), "Hi There", "b0344c61 d8db3853 5ca8afce af0bf12b 881dc200 c9833da7 26e9376c 2e32cff7"},
		{"a key of 131 bytes", long, "Test Using Larger Than Block-Size Key - Hash Key First", "60e43159 1ee0b67f 0d8a26aa cbf5b77f 8e0bc621 3728c514 0546040f 0ee37f54"},
		{"nothing", "", "", "b613679a 0814d9ec 772f95d7 78c35fc5 ff1697c4 93715653 c6c71214 4292c5ad"},
	}
	for _, c := range cases {
		if got := inHex(digest.Mac([]byte(c.key), []byte(c.in))); got != bare(c.want) {
			t.Errorf("P1.2: Mac of %s: %s, want %s", c.name, got, bare(c.want))
		}
	}
	if digest.Mac(nil, nil) != digest.Mac([]byte{}, []byte{}) {
		t.Error("P1.2: nil and no bytes differ")
	}
}

func TestMacOfEveryKeyLength(t *testing.T) {
	key, b := filler(2*64+2), filler(200)
	for k := range len(key) + 1 {
		for _, n := range []int{0, 1, 55, 56, 63, 64, 65, 119, 120, 128, 200} {
			m := hmac.New(sha256.New, key[:k])
			m.Write(b[:n])
			got := digest.Mac(key[:k], b[:n])
			if !bytes.Equal(got[:], m.Sum(nil)) {
				t.Errorf("P1.2: Mac of a key of %d bytes and %d bytes", k, n)
			}
		}
	}
}

func TestMacOfLongKeyIsThatOfItsSum(t *testing.T) {
	key, b := filler(65), []byte("abc")
	short := digest.Sum(key)
	if digest.Mac(key, b) != digest.Mac(short[:], b) {
		t.Error("P1.2: a key of 65 bytes is not replaced by its Sum")
	}
	short = digest.Sum(key[:64])
	if digest.Mac(key[:64], b) == digest.Mac(short[:], b) {
		t.Error("P1.2: a key of 64 bytes is replaced by its Sum")
	}
}

func TestSame(t *testing.T) {
	cases := []struct {
		a, b []byte
		want bool
	}{
		{nil, nil, true},
		{nil, []byte{}, true},
		{[]byte{}, nil, true},
		{[]byte{0}, nil, false},
		{nil, []byte{0}, false},
		{[]byte{1, 2}, []byte{1, 2}, true},
		{[]byte{1, 2}, []byte{1, 3}, false},
		{[]byte{1, 2}, []byte{3, 2}, false},
		{[]byte{1, 2}, []byte{2, 1}, false},
		{[]byte{1, 2}, []byte{1, 2, 0}, false},
		{[]byte{1, 2, 0}, []byte{1, 2}, false},
		{[]byte{1, 2}, []byte{0, 1, 2}, false},
		{[]byte{1, 1}, []byte{2, 2}, false},
		{[]byte{0, 128}, []byte{128, 0}, false},
	}
	for _, c := range cases {
		if got := digest.Same(c.a, c.b); got != c.want {
			t.Errorf("P1.3: Same(%v, %v): %v", c.a, c.b, got)
		}
	}
}

func TestSameSeesEveryBit(t *testing.T) {
	a := filler(70)
	if !digest.Same(a, bytes.Clone(a)) || !digest.Same(a, a) {
		t.Error("P1.3: equal bytes")
	}
	for i := range len(a) * 8 {
		b := bytes.Clone(a)
		b[i/8] ^= 1 << (i % 8)
		if digest.Same(a, b) || digest.Same(b, a) {
			t.Errorf("P1.3: the bit %d is not seen", i)
		}
	}
}

func TestSameSeesLengths(t *testing.T) {
	zeros := make([]byte, 600)
	for _, n := range []int{1, 2, 255, 256, 257, 512, 600} {
		if digest.Same(nil, zeros[:n]) || digest.Same(zeros[:n], nil) || digest.Same(zeros[:n], zeros[:n-1]) {
			t.Errorf("P1.3: %d bytes 0 and fewer are the same", n)
		}
	}
}

func TestArgumentsAreLeftAlone(t *testing.T) {
	whole := filler(300)
	was := bytes.Clone(whole)
	for _, n := range []int{0, 1, 63, 64, 65, 130} {
		digest.Sum(whole[:n])
		digest.Mac(whole[:n], whole[100:100+n])
		digest.Same(whole[:n], whole[1:1+n])
		h := digest.New()
		h.Write(whole[:n])
		h.Sum()
		h.Write(whole[:n])
	}
	if !bytes.Equal(whole, was) {
		t.Error("R5: an argument, or what lies behind it, was changed")
	}
}

func TestSameCallsHaveSameResults(t *testing.T) {
	key, b := filler(80), filler(130)
	d, m := digest.Sum(b), digest.Mac(key, b)
	digest.Sum(key)
	digest.Mac(b, key)
	if digest.Sum(b) != d || digest.Mac(key, b) != m {
		t.Error("R7: a call in between changes a result")
	}
}
