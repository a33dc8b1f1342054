package base_test

import (
	"bytes"
	"encoding/base64"
	"strings"
	"testing"

	"chatelaine/base"
)

const alphabet = "ABCDEFGHIJKLMNOPQRSTUVWXYZabcdefghijklmnopqrstuvwxyz0123456789-_"

// filler is bytes without a short period, so that groups that change places are seen.
func filler(many int) []byte {
	b := make([]byte, many)
	x := uint32(2463534242)
	for i := range b {
		x ^= x << 13
		x ^= x >> 17
		x ^= x << 5
		b[i] = byte(x >> 24)
	}
	return b
}

func refused(s string) bool {
	b, ok := base.Decode(s)
	return !ok && len(b) == 0
}

func decodesTo(s string, want []byte) bool {
	b, ok := base.Decode(s)
	return ok && bytes.Equal(b, want)
}

// bitByBit encodes as the chapter words it: a text of bits, cut into sixes.
func bitByBit(b []byte) string {
	var bits []int
	for _, x := range b {
		for i := range 8 {
			bits = append(bits, int(x>>(7-i)&1))
		}
	}
	for len(bits)%6 != 0 {
		bits = append(bits, 0)
	}
	var text strings.Builder
	for at := 0; at < len(bits); at += 6 {
		value := 0
		for _, bit := range bits[at : at+6] {
			value = 2*value + bit
		}
		text.WriteByte(alphabet[value])
	}
	return text.String()
}

func TestKnownTexts(t *testing.T) {
	cases := []struct{ in, want string }{
		{"", ""},
		{"f", "Zg"},
		{"fo", "Zm8"},
		{"foo", "Zm9v"},
		{"foob", "Zm9vYg"},
		{"fooba", "Zm9vYmE"},
		{"foobar", "Zm9vYmFy"},
		{"\xfb\xff", "-_8"},
		{"\x00", "AA"},
		{"\x00\x00", "AAA"},
		{"\x00\x00\x00", "AAAA"},
		{"\xff", "_w"},
		{"\xff\xff", "__8"},
		{"\xff\xff\xff", "____"},
		{"\x80\x00\x01", "gAAB"},
	}
	for _, c := range cases {
		if got := base.Encode([]byte(c.in)); got != c.want {
			t.Errorf("P2.1: Encode(%q): %q, want %q", c.in, got, c.want)
		}
		if !decodesTo(c.want, []byte(c.in)) {
			t.Errorf("P2.2: Decode(%q) is not %q", c.want, c.in)
		}
	}
}

func TestNothing(t *testing.T) {
	if base.Encode(nil) != "" || base.Encode([]byte{}) != "" {
		t.Error("P2.1: nothing has signs")
	}
	if !decodesTo("", nil) {
		t.Error("P2.2: no signs are not the encoding of nothing")
	}
}

// The 48 bytes whose sixes are 0 to 63, one after the other.
func TestEverySign(t *testing.T) {
	var b []byte
	for v := 0; v < 64; v += 4 {
		word := v<<18 | (v+1)<<12 | (v+2)<<6 | (v + 3)
		b = append(b, byte(word>>16), byte(word>>8), byte(word))
	}
	if got := base.Encode(b); got != alphabet {
		t.Errorf("P2.1: the signs are %q", got)
	}
	if !decodesTo(alphabet, b) {
		t.Error("P2.2: the signs are not read")
	}
}

func TestEncodeOfEveryOneAndTwoBytes(t *testing.T) {
	for x := range 256 {
		one := []byte{byte(x)}
		if got := base.Encode(one); got != bitByBit(one) {
			t.Errorf("P2.1: Encode(%v): %q", one, got)
		}
		for y := range 256 {
			two := []byte{byte(x), byte(y)}
			if got := base.Encode(two); got != bitByBit(two) {
				t.Errorf("P2.1: Encode(%v): %q", two, got)
			}
		}
	}
}

func TestEncodeOfEveryBit(t *testing.T) {
	for n := 1; n <= 8; n++ {
		for bit := range 8 * n {
			b := make([]byte, n)
			b[bit/8] = 128 >> (bit % 8)
			if got := base.Encode(b); got != bitByBit(b) {
				t.Errorf("P2.1: Encode(%v): %q", b, got)
			}
		}
	}
}

func TestEncodeOfEveryLength(t *testing.T) {
	b := filler(400)
	for n := range len(b) + 1 {
		if got := base.Encode(b[:n]); got != bitByBit(b[:n]) || got != base64.RawURLEncoding.EncodeToString(b[:n]) {
			t.Errorf("P2.1: Encode of %d bytes: %q", n, got)
		}
	}
}

func TestLongInput(t *testing.T) {
	for _, n := range []int{1 << 20, 1<<20 + 1, 1<<20 + 2} {
		b := filler(n)
		text := base.Encode(b)
		if text != base64.RawURLEncoding.EncodeToString(b) {
			t.Errorf("P2.1: Encode of %d bytes", n)
		}
		if !decodesTo(text, b) {
			t.Errorf("P2.2: Decode of the encoding of %d bytes", n)
		}
	}
}

// A text of two characters is the encoding of one byte, or of none: whatever the characters are.
func TestDecodeOfEveryTwoCharacters(t *testing.T) {
	encoded := map[string]int{}
	for x := range 256 {
		encoded[bitByBit([]byte{byte(x)})] = x
	}
	for x := range 256 {
		for y := range 256 {
			s := string([]byte{byte(x), byte(y)})
			if b, is := encoded[s]; is && !decodesTo(s, []byte{byte(b)}) {
				t.Errorf("P2.2: Decode(%q) is not %d", s, b)
			} else if !is && !refused(s) {
				t.Errorf("P2.2: not refused: %q", s)
			}
		}
	}
}

func TestDecodeOfEveryThreeSigns(t *testing.T) {
	found := 0
	for i := range 64 * 64 * 64 {
		first, second, third := i/4096, i/64%64, i%64
		s := string([]byte{alphabet[first], alphabet[second], alphabet[third]})
		if third%4 != 0 {
			if !refused(s) {
				t.Errorf("P2.2: bits that are not 0: %q", s)
			}
			continue
		}
		found++
		if !decodesTo(s, []byte{byte(i >> 10), byte(i >> 2)}) {
			t.Errorf("P2.2: Decode(%q)", s)
		}
	}
	if found != 1<<16 {
		t.Errorf("P2.2: %d texts of three signs", found)
	}
}

func TestDecodeRefusesAnyOtherCharacter(t *testing.T) {
	for _, whole := range []string{"AA", "AAA", "AAAA", "AAAAAA", "AAAAAAA", "AAAAAAAA"} {
		for at := range len(whole) {
			for c := range 256 {
				if strings.IndexByte(alphabet, byte(c)) >= 0 {
					continue
				}
				s := whole[:at] + string([]byte{byte(c)}) + whole[at+1:]
				if !refused(s) {
					t.Errorf("P2.2: not refused: %q", s)
				}
			}
		}
	}
}

// Characters that another decoder may pass over, at every place and whatever length they lead to.
func TestDecodePassesOverNothing(t *testing.T) {
	for _, whole := range []string{"", "Zg", "Zm8", "Zm9v", "Zm9vYg", "Zm9vYmE", "Zm9vYmFy"} {
		for _, extra := range []string{"=", "==", "\n", "\r", "\r\n", " ", "\t", "\x00", "+", "/", ".", "é", "\xff", "\n\n\n\n"} {
			for at := range len(whole) + 1 {
				if s := whole[:at] + extra + whole[at:]; !refused(s) {
					t.Errorf("P2.2: not refused: %q", s)
				}
			}
		}
	}
}

func TestDecodeRefusesOneMoreThanFours(t *testing.T) {
	for n := 1; n < 200; n += 4 {
		for _, sign := range []string{"A", "_"} {
			if s := strings.Repeat(sign, n); !refused(s) {
				t.Errorf("P2.2: %d signs %s are not refused", n, sign)
			}
		}
	}
	for i := range len(alphabet) {
		if !refused(alphabet[i:i+1]) || !refused("Zm9v"+alphabet[i:i+1]) {
			t.Errorf("P2.2: a sign %c that is left is not refused", alphabet[i])
		}
	}
}

// The last sign has four bits that were appended, or two, or none; those of earlier signs are free.
func TestDecodeRefusesAppendedBits(t *testing.T) {
	for _, ahead := range []string{"", "____", "AAAAAAAA"} {
		for value := range 64 {
			sign := alphabet[value : value+1]
			if refused(ahead+"_"+sign) != (value%16 != 0) {
				t.Errorf("P2.2: two signs, the last %s", sign)
			}
			if refused(ahead+"__"+sign) != (value%4 != 0) {
				t.Errorf("P2.2: three signs, the last %s", sign)
			}
			if refused(ahead + "___" + sign) {
				t.Errorf("P2.2: four signs, the last %s", sign)
			}
		}
	}
}

func TestThereAndBack(t *testing.T) {
	b := filler(600)
	for n := range 300 {
		for _, from := range []int{0, 1, 2, 300} {
			part := b[from : from+n]
			if !decodesTo(base.Encode(part), part) {
				t.Errorf("P2.3: %d bytes from %d on do not come back", n, from)
			}
		}
	}
	for x := range 256 {
		same := bytes.Repeat([]byte{byte(x)}, 5)
		if !decodesTo(base.Encode(same), same) {
			t.Errorf("P2.3: %v do not come back", same)
		}
	}
}

func TestBackAndThere(t *testing.T) {
	seeds := filler(9 * 4000)
	taken := 0
	for i := range 4000 {
		seed := seeds[9*i : 9*i+9]
		var s []byte
		for _, x := range seed[1 : 1+seed[0]%9] {
			s = append(s, alphabet[x%64])
		}
		b, ok := base.Decode(string(s))
		if !ok {
			continue
		}
		taken++
		if got := base.Encode(b); got != string(s) {
			t.Errorf("P2.3: %q was decoded, and is encoded as %q", s, got)
		}
	}
	if taken < 1000 {
		t.Errorf("P2.3: only %d texts were decoded", taken)
	}
}

func TestLengthOfEncoding(t *testing.T) {
	b := filler(1000)
	for n := range len(b) + 1 {
		if got, want := len(base.Encode(b[:n])), (4*n+2)/3; got != want {
			t.Errorf("P2.3: %d bytes have %d signs, want %d", n, got, want)
		}
	}
}

func TestEncodingsFollowEachOther(t *testing.T) {
	whole := filler(60)
	for n := range 31 {
		for m := range 30 {
			a, b := whole[:n], whole[n:n+m]
			joined := base.Encode(a)+base.Encode(b) == base.Encode(whole[:n+m])
			if n%3 == 0 && !joined {
				t.Errorf("P2.3: %d bytes followed by %d", n, m)
			}
			if n%3 != 0 && m > 0 && joined {
				t.Errorf("P2.1: bits of %d bytes do not go on with the next ones", n)
			}
		}
	}
}

func TestArgumentsAreLeftAlone(t *testing.T) {
	whole := filler(64)
	was := bytes.Clone(whole)
	for n := range 40 {
		base.Encode(whole[:n])
		base.Encode(whole[5 : 5+n])
	}
	if !bytes.Equal(whole, was) {
		t.Error("R5: an argument, or what lies behind it, was changed")
	}
}

func TestResultsBelongToCaller(t *testing.T) {
	first, _ := base.Decode("Zm9vYmE")
	second, _ := base.Decode("Zm9vYmE")
	for i := range first {
		first[i] = 0
	}
	_ = append(first, 1, 2, 3)
	if string(second) != "fooba" || !decodesTo("Zm9vYmE", []byte("fooba")) {
		t.Error("R6: writing into what was decoded changes something else")
	}
	b := []byte("fooba")
	text := base.Encode(b)
	clear(b)
	if text != "Zm9vYmE" {
		t.Error("R6: an encoding shares memory with what was encoded")
	}
}

func TestSameCallsHaveSameResults(t *testing.T) {
	b := filler(77)
	text := base.Encode(b)
	base.Encode(b[1:])
	base.Decode("Zh")
	if base.Encode(b) != text || !decodesTo(text, b) || !refused("Zh") || !decodesTo(text, b) {
		t.Error("R7: a call in between changes a result")
	}
}
