package pairs_test

import (
	"fmt"
	"net/url"
	"strings"
	"testing"

	"chatelaine/pairs"
)

const plainOnes = "ABCDEFGHIJKLMNOPQRSTUVWXYZabcdefghijklmnopqrstuvwxyz0123456789-._~"

// numbers is a source of numbers without a short period.
type numbers uint32

func (n *numbers) below(bound int) int {
	x := uint32(*n)
	x ^= x << 13
	x ^= x >> 17
	x ^= x << 5
	*n = numbers(x)
	return int(x>>8) % bound
}

// text is of at most most bytes, chosen from those of the alphabet.
func (n *numbers) text(alphabet string, most int) string {
	b := make([]byte, n.below(most+1))
	for i := range b {
		b[i] = alphabet[n.below(len(alphabet))]
	}
	return string(b)
}

func everyByte() string {
	b := make([]byte, 256)
	for i := range b {
		b[i] = byte(i)
	}
	return string(b)
}

func unescapesTo(s string, plus bool, want string) bool {
	got, ok := pairs.Unescape(s, plus)
	return ok && got == want
}

// broken tells whether a text can't be unescaped, neither with plus nor without.
func broken(s string) bool {
	with, ok := pairs.Unescape(s, true)
	without, is := pairs.Unescape(s, false)
	return !ok && !is && with == "" && without == ""
}

func TestEscapeOfEveryByte(t *testing.T) {
	for x := range 256 {
		s := string([]byte{byte(x)})
		want := fmt.Sprintf("%%%02X", x)
		if strings.Contains(plainOnes, s) {
			want = s
		}
		for _, around := range []string{"", "a", "%", "\xff"} {
			outer := pairs.Escape(around)
			if got := pairs.Escape(around + s + around); got != outer+want+outer {
				t.Errorf("P3.1: Escape(%q): %q", around+s+around, got)
			}
		}
	}
}

func TestEscapeOfKnownTexts(t *testing.T) {
	cases := []struct{ in, want string }{
		{"", ""},
		{"a b/é", "a%20b%2F%C3%A9"},
		{plainOnes, plainOnes},
		{"a+b", "a%2Bb"},
		{"%20", "%2520"},
		{"a=1&b", "a%3D1%26b"},
		{"\x00\x0f\xf0\xff", "%00%0F%F0%FF"},
		{"\r\n\t", "%0D%0A%09"},
		{"€𝄞", "%E2%82%AC%F0%9D%84%9E"},
		{"\xed\xa0\x80\xc0", "%ED%A0%80%C0"}, // no UTF-8
	}
	for _, c := range cases {
		if got := pairs.Escape(c.in); got != c.want {
			t.Errorf("P3.1: Escape(%q): %q, want %q", c.in, got, c.want)
		}
	}
}

// The library writes a space as +, and else the same.
func TestEscapeAgainstLibrary(t *testing.T) {
	n, bytes := numbers(77), everyByte()
	for range 3000 {
		s := n.text(bytes, 40)
		if got, want := pairs.Escape(s), strings.ReplaceAll(url.QueryEscape(s), "+", "%20"); got != want {
			t.Errorf("P3.1: Escape(%q): %q, want %q", s, got, want)
		}
	}
}

// Escape and Unescape know no limit.
func TestEscapeOfLongText(t *testing.T) {
	s := strings.Repeat(everyByte(), 1<<12)
	text := pairs.Escape(s)
	if len(text) != (3*256-2*len(plainOnes))<<12 {
		t.Errorf("P3.1: %d bytes are escaped as %d", len(s), len(text))
	}
	if !unescapesTo(text, true, s) || !unescapesTo(text, false, s) {
		t.Error("P3.2: a long text does not come back")
	}
}

func TestUnescapeOfKnownTexts(t *testing.T) {
	cases := []struct{ in, with, without string }{
		{"", "", ""},
		{"a+b%2f", "a b/", "a+b/"},
		{"+", " ", "+"},
		{"++", "  ", "++"},
		{"%2B+%2b", "+ +", "+++"},   // what was escaped is no + to be replaced
		{"%2541", "%41", "%41"},     // nor a % that begins another escape
		{"%25%34%31", "%41", "%41"}, // not even if its digits were escaped, too
		{"%20+%20", "   ", " + "},
		{"%411", "A1", "A1"}, // a third digit stands for itself
		{"%41%42%43", "ABC", "ABC"},
		{"%c3%A9%C3%a9", "éé", "éé"},
		{"%00%ff%Ff%fF%FF", "\x00\xff\xff\xff\xff", "\x00\xff\xff\xff\xff"},
		{"a=1&b;#?/ ", "a=1&b;#?/ ", "a=1&b;#?/ "}, // characters that Escape would not leave
		{"é\x00\xff", "é\x00\xff", "é\x00\xff"},
	}
	for _, c := range cases {
		if !unescapesTo(c.in, true, c.with) {
			t.Errorf("P3.2: Unescape(%q) with plus is not %q", c.in, c.with)
		}
		if !unescapesTo(c.in, false, c.without) {
			t.Errorf("P3.2: Unescape(%q) is not %q", c.in, c.without)
		}
	}
}

// A % and any two bytes: read if both are digits, else refused.
func TestUnescapeOfEveryTwoBytes(t *testing.T) {
	values := map[string]int{}
	for x := range 256 {
		upper, lower := fmt.Sprintf("%02X", x), fmt.Sprintf("%02x", x)
		values[upper], values[lower] = x, x
		values[upper[:1]+lower[1:]], values[lower[:1]+upper[1:]] = x, x
	}
	if len(values) != 22*22 {
		t.Fatalf("%d pairs of digits", len(values))
	}
	for i := range 1 << 16 {
		two := string([]byte{byte(i >> 8), byte(i)})
		value, is := values[two]
		for _, s := range []string{"%" + two, "x%" + two + "y"} {
			want := strings.Replace(s, "%"+two, string([]byte{byte(value)}), 1)
			if is && (!unescapesTo(s, true, want) || !unescapesTo(s, false, want)) {
				t.Errorf("P3.2: Unescape(%q) is not %q", s, want)
			}
			if !is && !broken(s) {
				t.Errorf("P3.2: not refused: %q", s)
			}
		}
	}
}

func TestUnescapeRefuses(t *testing.T) {
	for _, end := range []string{"%", "%4", "%f", "%%", "%z", "%zz", "%4g", "%g4", "%-1", "%+1", "%1+", "% 1", "%0x", "%4%31", "%%41", "%\xc3\xa9"} {
		for _, ahead := range []string{"", "a", "+", "%41", "a+b%2F"} {
			if !broken(ahead + end) {
				t.Errorf("P3.2: not refused: %q", ahead+end)
			}
		}
	}
	for _, s := range []string{"%zza", "a%4&b", "%4 1", "%4\n1", "%%%", "%25%", "%25%2"} {
		if !broken(s) {
			t.Errorf("P3.2: not refused: %q", s)
		}
	}
}

func TestUnescapeAgainstLibrary(t *testing.T) {
	n := numbers(99)
	read, refused := 0, 0
	for range 20000 {
		s := n.text("%%%+a4Fg09A\xff", 9)
		for _, plus := range []bool{true, false} {
			unescape := url.PathUnescape
			if plus {
				unescape = url.QueryUnescape
			}
			want, err := unescape(s)
			if err != nil {
				refused++
				if !broken(s) {
					t.Errorf("P3.2: not refused: %q", s)
				}
				continue
			}
			read++
			if !unescapesTo(s, plus, want) {
				t.Errorf("P3.2: Unescape(%q, %v) is not %q", s, plus, want)
			}
		}
	}
	if read < 1000 || refused < 1000 {
		t.Errorf("P3.2: %d texts were read, %d refused", read, refused)
	}
}

func TestEscapedTextComesBack(t *testing.T) {
	n, bytes := numbers(5), everyByte()
	texts := []string{"", "+", "%", "%41", "%zz", "a b+c&d=e%2B", bytes}
	for range 2000 {
		texts = append(texts, n.text(bytes, 30), n.text("%+ &=4a", 12))
	}
	for _, s := range texts {
		escaped := pairs.Escape(s)
		if !unescapesTo(escaped, true, s) || !unescapesTo(escaped, false, s) {
			t.Errorf("P3.5: %q is escaped as %q, and does not come back", s, escaped)
		}
	}
}
