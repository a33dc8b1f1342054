package ldap_test

import (
	"bytes"
	"strings"
	"testing"

	"chatelaine/api"
	"chatelaine/ldap"
)

// numbers is a source of numbers without a short period.
type numbers uint32

func (n *numbers) below(bound int) int {
	x := uint32(*n)
	x ^= x << 13
	x ^= x >> 17
	x ^= x << 5
	*n = numbers(x)
	return int(x>>8) % bound
}

// text is any, most of them short.
func (n *numbers) text() string {
	size := n.below(8)
	switch n.below(20) {
	case 0:
		size = n.below(140)
	case 1:
		size = n.below(700)
	}
	b := make([]byte, size)
	for i := range b {
		b[i] = byte(n.below(256))
	}
	return string(b)
}

// whole is a number from 0 to 2^31 - 1, of any length.
func (n *numbers) whole() int {
	return (n.below(1<<16)<<15 | n.below(1<<15)) >> n.below(31)
}

func (n *numbers) bind() api.Bind {
	return api.Bind{Id: n.whole(), Dn: n.text(), Password: n.text()}
}

func (n *numbers) bound() api.Bound {
	return api.Bound{Id: n.whole(), Code: n.whole(), Dn: n.text(), Text: n.text()}
}

// element is the encoding of an element of the tag with what stands inside it, as the chapter on ber says.
func element(tag byte, parts ...string) string {
	inside := strings.Join(parts, "")
	switch n := len(inside); {
	case n < 128:
		return string([]byte{tag, byte(n)}) + inside
	case n < 256:
		return string([]byte{tag, 129, byte(n)}) + inside
	default:
		return string([]byte{tag, 130, byte(n / 256), byte(n % 256)}) + inside
	}
}

// whole is a number from 0 to 2^31 - 1 in the fewest bytes that leave the highest bit 0.
func whole(n int) string {
	switch {
	case n < 0x80:
		return string([]byte{byte(n)})
	case n < 0x8000:
		return string([]byte{byte(n / 0x100), byte(n)})
	case n < 0x800000:
		return string([]byte{byte(n / 0x10000), byte(n / 0x100), byte(n)})
	default:
		return string([]byte{byte(n / 0x1000000), byte(n / 0x10000), byte(n / 0x100), byte(n)})
	}
}

func bindText(x api.Bind) string {
	return element(48, element(2, whole(x.Id)), element(96, element(2, "\x03"), element(4, x.Dn), element(128, x.Password)))
}

func boundText(x api.Bound) string {
	return element(48, element(2, whole(x.Id)), element(97, element(10, whole(x.Code)), element(4, x.Dn), element(4, x.Text)))
}

// checkBind checks that a bind has this encoding, and this has it alone.
func checkBind(t *testing.T, x api.Bind, want string) {
	t.Helper()
	b, e := ldap.PutBind(x)
	if e != api.OK || string(b) != want {
		t.Errorf("P7.1: PutBind(%.200v): %.200x, %d", x, b, e)
	}
	if got, e := ldap.GetBind([]byte(want)); e != api.OK || got != x {
		t.Errorf("P7.1, P7.4: GetBind(%.200x): %.200v, %d", want, got, e)
	}
	noBound(t, want)
}

func checkBound(t *testing.T, x api.Bound, want string) {
	t.Helper()
	b, e := ldap.PutBound(x)
	if e != api.OK || string(b) != want {
		t.Errorf("P7.2: PutBound(%.200v): %.200x, %d", x, b, e)
	}
	if got, e := ldap.GetBound([]byte(want)); e != api.OK || got != x {
		t.Errorf("P7.2, P7.4: GetBound(%.200x): %.200v, %d", want, got, e)
	}
	noBind(t, want)
}

// noBind checks that bytes are the encoding of no bind.
func noBind(t *testing.T, b string) {
	t.Helper()
	if got, e := ldap.GetBind([]byte(b)); e != api.ErrLdapForm || got != (api.Bind{}) {
		t.Errorf("P7.1: GetBind(%.200x): %.200v, %d", b, got, e)
	}
}

func noBound(t *testing.T, b string) {
	t.Helper()
	if got, e := ldap.GetBound([]byte(b)); e != api.ErrLdapForm || got != (api.Bound{}) {
		t.Errorf("P7.2: GetBound(%.200x): %.200v, %d", b, got, e)
	}
}

// notPut checks that there are no encodings.
func notPut(t *testing.T, x api.Bind) {
	t.Helper()
	if b, e := ldap.PutBind(x); e != api.ErrLdapForm || len(b) != 0 {
		t.Errorf("P7.1: PutBind of the number %d, and %d and %d bytes: %.200x, %d", x.Id, len(x.Dn), len(x.Password), b, e)
	}
}

func boundNotPut(t *testing.T, x api.Bound) {
	t.Helper()
	if b, e := ldap.PutBound(x); e != api.ErrLdapForm || len(b) != 0 {
		t.Errorf("P7.2: PutBound of the numbers %d and %d, and %d and %d bytes: %.200x, %d", x.Id, x.Code, len(x.Dn), len(x.Text), b, e)
	}
}

func TestKnownBinds(t *testing.T) {
	checkBind(t, api.Bind{Id: 1, Dn: "cn=a", Password: "p"}, "\x30\x11\x02\x01\x01\x60\x0c\x02\x01\x03\x04\x04cn=a\x80\x01p")
	checkBind(t, api.Bind{}, "\x30\x0c\x02\x01\x00\x60\x07\x02\x01\x03\x04\x00\x80\x00")
	checkBind(t, api.Bind{Id: 128, Password: "\x00"}, "\x30\x0e\x02\x02\x00\x80\x60\x08\x02\x01\x03\x04\x00\x80\x01\x00")
	checkBind(t, api.Bind{Id: 1<<31 - 1, Dn: "\xff\x00"}, "\x30\x11\x02\x04\x7f\xff\xff\xff\x60\x09\x02\x01\x03\x04\x02\xff\x00\x80\x00")
}

func TestKnownBounds(t *testing.T) {
	checkBound(t, api.Bound{Id: 2, Code: 49, Text: "no"}, "\x30\x0e\x02\x01\x02\x61\x09\x0a\x01\x31\x04\x00\x04\x02no")
	checkBound(t, api.Bound{}, "\x30\x0c\x02\x01\x00\x61\x07\x0a\x01\x00\x04\x00\x04\x00")
	checkBound(t, api.Bound{Id: 1, Dn: "cn=a", Text: "b"}, "\x30\x11\x02\x01\x01\x61\x0c\x0a\x01\x00\x04\x04cn=a\x04\x01b")
	checkBound(t, api.Bound{Id: 255, Code: 1<<31 - 1}, "\x30\x10\x02\x02\x00\xff\x61\x0a\x0a\x04\x7f\xff\xff\xff\x04\x00\x04\x00")
}

// edges are the numbers at which the encoding of one gets longer, and those about them.
func edges() []int {
	l := []int{0, 1, 2, 3, 1<<31 - 2, 1<<31 - 1}
	for _, bit := range []int{7, 8, 15, 16, 23, 24, 30} {
		l = append(l, 1<<bit-1, 1<<bit, 1<<bit+1)
	}
	return l
}

func TestNumbers(t *testing.T) {
	for _, id := range edges() {
		x := api.Bind{Id: id, Dn: "a", Password: "b"}
		checkBind(t, x, bindText(x))
		for _, code := range edges() {
			y := api.Bound{Id: id, Code: code, Dn: "a", Text: "b"}
			checkBound(t, y, boundText(y))
		}
	}
	for n := range 70000 {
		x, y := api.Bind{Id: n}, api.Bound{Id: 70000 - n, Code: n}
		checkBind(t, x, bindText(x))
		checkBound(t, y, boundText(y))
	}
}

// Numbers below 0 or above 2^31 - 1 have no encoding.
func TestOtherNumbers(t *testing.T) {
	for _, n := range []int{-1, -2, -128, -256, -1 << 31, -1<<31 + 1, -1 << 63, 1 << 31, 1<<31 + 1, 1<<32 - 1, 1 << 32, 1<<32 + 1, 1 << 40, 1<<63 - 1} {
		notPut(t, api.Bind{Id: n})
		notPut(t, api.Bind{Id: n, Dn: "cn=a", Password: "p"})
		boundNotPut(t, api.Bound{Id: n})
		boundNotPut(t, api.Bound{Code: n})
		boundNotPut(t, api.Bound{Id: n, Code: 1, Dn: "cn=a", Text: "x"})
		boundNotPut(t, api.Bound{Id: 1, Code: n, Dn: "cn=a", Text: "x"})
		boundNotPut(t, api.Bound{Id: n, Code: n})
	}
}

func TestEveryByte(t *testing.T) {
	all := make([]byte, 256)
	for c := range 256 {
		all[c] = byte(c)
		one := string([]byte{byte(c)})
		for _, s := range []string{one, "a" + one, one + "a", one + one} {
			x, y := api.Bind{Id: 1, Dn: s, Password: s + "b"}, api.Bound{Id: 1, Code: 2, Dn: s, Text: s + "b"}
			checkBind(t, x, bindText(x))
			checkBound(t, y, boundText(y))
		}
	}
	x, y := api.Bind{Dn: string(all), Password: string(all[1:])}, api.Bound{Dn: string(all[1:]), Text: string(all)}
	checkBind(t, x, bindText(x))
	checkBound(t, y, boundText(y))
}

func TestTextsOfManyLengths(t *testing.T) {
	a, b := strings.Repeat("a", 70000), strings.Repeat("b", 70000)
	for n := range 600 {
		for _, other := range []int{0, 1, 127, 128, 255, 256} {
			for _, x := range []api.Bind{{Id: 5, Dn: a[:n], Password: b[:other]}, {Id: 5, Dn: b[:other], Password: a[:n]}} {
				y := api.Bound{Id: 5, Code: 6, Dn: x.Dn, Text: x.Password}
				checkBind(t, x, bindText(x))
				checkBound(t, y, boundText(y))
			}
		}
	}
}

// A length above 65535 cannot be encoded, and it is that of the whole which gets there first.
func TestLongestTexts(t *testing.T) {
	a := strings.Repeat("a", 200000)
	for id, size := range map[int]int{0: 1, 127: 1, 128: 2, 1<<31 - 1: 4} {
		most := 65535 - (2 + size) - 4 - 3 - 4 - 2 // all that stands about one text while the other is empty
		for n := most - 5; n <= most; n++ {
			for _, x := range []api.Bind{{Id: id, Dn: a[:n]}, {Id: id, Password: a[:n]}} {
				y := api.Bound{Id: id, Code: 100, Dn: x.Dn, Text: x.Password}
				checkBind(t, x, bindText(x))
				checkBound(t, y, boundText(y))
			}
		}
		x := api.Bind{Id: id, Dn: a[:30000], Password: a[:most-30002]}
		y := api.Bound{Id: id, Code: 100, Dn: x.Dn, Text: x.Password}
		checkBind(t, x, bindText(x))
		checkBound(t, y, boundText(y))
		boundNotPut(t, api.Bound{Id: id, Code: 128, Dn: x.Dn, Text: x.Password})
		for _, n := range []int{most + 1, most + 2, most + 3, most + 5, most + 10, 65529, 65530, 65535, 65536, 65537, 131072, 200000} {
			notPut(t, api.Bind{Id: id, Dn: a[:n]})
			notPut(t, api.Bind{Id: id, Password: a[:n]})
			notPut(t, api.Bind{Id: id, Dn: a[:n-30002], Password: a[:30000]})
			boundNotPut(t, api.Bound{Id: id, Code: 1, Dn: a[:n]})
			boundNotPut(t, api.Bound{Id: id, Code: 1, Text: a[:n]})
			boundNotPut(t, api.Bound{Id: id, Code: 1, Dn: a[:30000], Text: a[:n-30002]})
		}
	}
}

// What was encoded is decoded as it was, and in between no bind is taken for a bound (P7.4).
func TestManyMessages(t *testing.T) {
	n := numbers(7)
	for range 30000 {
		x, y := n.bind(), n.bound()
		checkBind(t, x, bindText(x))
		checkBound(t, y, boundText(y))
	}
}

func TestArgumentsAreLeftAlone(t *testing.T) {
	for _, s := range []string{
		bindText(api.Bind{Id: 300, Dn: "cn=a", Password: "p"}), boundText(api.Bound{Id: 300, Code: 200, Dn: "cn=a", Text: "x"}),
		bindText(api.Bind{Dn: strings.Repeat("a", 300)}), boundText(api.Bound{Dn: strings.Repeat("a", 300)}),
	} {
		b := []byte(s + "behind it")
		ldap.GetBind(b[:len(s)])
		ldap.GetBound(b[:len(s)])
		ldap.GetBind(b)
		ldap.GetBound(b)
		ldap.GetBind(b[:len(s)-1])
		ldap.GetBound(b[:len(s)-1])
		if string(b) != s+"behind it" {
			t.Error("R5: an argument, or what lies behind it, was changed")
		}
	}
}

// spoil writes into all memory of a result.
func spoil(b []byte) {
	b = b[:cap(b)]
	for i := range b {
		b[i] ^= 0xff
	}
}

func TestResultsBelongToCaller(t *testing.T) {
	x, y := api.Bind{Id: 300, Dn: "cn=a", Password: "pass"}, api.Bound{Id: 300, Code: 200, Dn: "cn=a", Text: "text"}
	for range 3 {
		b, _ := ldap.PutBind(x)
		c, _ := ldap.PutBind(x)
		gotX, _ := ldap.GetBind(b)
		spoil(b)
		if string(c) != bindText(x) || gotX != (api.Bind{Id: 300, Dn: "cn=a", Password: "pass"}) || x != gotX {
			t.Errorf("P7.1, R6: writing into an encoding changes something else: %x, %v", c, gotX)
		}
		b, _ = ldap.PutBound(y)
		c, _ = ldap.PutBound(y)
		gotY, _ := ldap.GetBound(b)
		spoil(b)
		if string(c) != boundText(y) || gotY != (api.Bound{Id: 300, Code: 200, Dn: "cn=a", Text: "text"}) || y != gotY {
			t.Errorf("P7.2, R6: writing into an encoding changes something else: %x, %v", c, gotY)
		}
	}
}

func TestSameCallsHaveSameResults(t *testing.T) {
	x, y := api.Bind{Id: 1, Dn: "cn=a", Password: "p"}, api.Bound{Id: 2, Code: 49, Dn: "cn=b", Text: "no"}
	for range 3 {
		checkBind(t, x, bindText(x))
		checkBound(t, y, boundText(y))
		notPut(t, api.Bind{Id: -1, Dn: "cn=c", Password: "q"})
		boundNotPut(t, api.Bound{Code: -1, Dn: "cn=c", Text: "q"})
		noBind(t, bindText(x)[:10])
		noBound(t, boundText(y)[:10])
	}
	b, _ := ldap.PutBind(x)
	c, _ := ldap.PutBind(x)
	if !bytes.Equal(b, c) {
		t.Errorf("R7: %x and %x", b, c)
	}
}
