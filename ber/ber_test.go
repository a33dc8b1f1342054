package ber_test

import (
	"bytes"
	"testing"

	"chatelaine/api"
	"chatelaine/ber"
)

// numbers is a source of numbers without a short period.
type numbers uint32

func (n *numbers) below(bound int) int {
	x := uint32(*n)
	x ^= x << 13
	x ^= x >> 17
	x ^= x << 5
	*n = numbers(x)
	return int(x>>8) % bound
}

// tag is one that is allowed, with bit 32 or without.
func (n *numbers) tag(list bool) byte {
	tag := byte(n.below(8)<<5 | n.below(31))
	if list {
		return tag | 32
	}
	return tag &^ 32
}

// element is a valid one, most of them short.
func (n *numbers) element(deep int) api.Tlv {
	if deep == 0 || n.below(3) == 0 {
		t := api.Tlv{Tag: n.tag(false)}
		size := n.below(6)
		if n.below(20) == 0 {
			size = n.below(400)
		}
		for range size {
			t.Bytes = append(t.Bytes, byte(n.below(256)))
		}
		return t
	}
	t := api.Tlv{Tag: n.tag(true)}
	for range n.below(5) {
		t.List = append(t.List, n.element(deep-1))
	}
	return t
}

func leaf(tag byte, text string) api.Tlv { return api.Tlv{Tag: tag, Bytes: []byte(text)} }

func list(elements ...api.Tlv) api.Tlv { return api.Tlv{Tag: 48, List: elements} }

// long is an element with so many bytes.
func long(n int) api.Tlv { return api.Tlv{Tag: 4, Bytes: bytes.Repeat([]byte{'x'}, n)} }

// nested is an element inside so many lists.
func nested(t api.Tlv, deep int) api.Tlv {
	for range deep {
		t = list(t)
	}
	return t
}

// equal is what Same must answer.
func equal(a, b api.Tlv) bool {
	if a.Tag != b.Tag || string(a.Bytes) != string(b.Bytes) || len(a.List) != len(b.List) {
		return false
	}
	for i := range a.List {
		if !equal(a.List[i], b.List[i]) {
			return false
		}
	}
	return true
}

func none(t api.Tlv) bool { return t.Tag == 0 && len(t.Bytes) == 0 && len(t.List) == 0 }

// spoil writes into all memory of an element.
func spoil(t api.Tlv) {
	for _, one := range t.List {
		spoil(one)
	}
	for i := range t.Bytes[:cap(t.Bytes)] {
		t.Bytes[:cap(t.Bytes)][i] ^= 0xff
	}
	for i := range t.List[:cap(t.List)] {
		t.List[:cap(t.List)][i] = leaf(5, "spoilt")
	}
}

func TestWholeOfKnownNumbers(t *testing.T) {
	for n, want := range map[int]string{
		0: "\x00", 1: "\x01", 127: "\x7f", 128: "\x00\x80", 129: "\x00\x81", 255: "\x00\xff", 256: "\x01\x00", 32767: "\x7f\xff", 32768: "\x00\x80\x00",
		65535: "\x00\xff\xff", 65536: "\x01\x00\x00", 1<<23 - 1: "\x7f\xff\xff", 1 << 23: "\x00\x80\x00\x00", 1<<24 - 1: "\x00\xff\xff\xff", 1 << 24: "\x01\x00\x00\x00",
		0x12345678: "\x12\x34\x56\x78", 1<<31 - 1: "\x7f\xff\xff\xff",
	} {
		if got := ber.Whole(n); string(got) != want {
			t.Errorf("P6.3: Whole(%d): %x", n, got)
		}
		if got, ok := ber.Number([]byte(want)); got != n || !ok {
			t.Errorf("P6.3: Number(%x): %d, %v", want, got, ok)
		}
	}
}

func TestWholeOfOtherNumbers(t *testing.T) {
	for _, n := range []int{-1, -2, -127, -128, -129, -256, -1 << 31, -1<<31 + 1, -1 << 32, -1 << 63, 1 << 31, 1<<31 + 1, 1<<32 - 1, 1 << 32, 1<<32 + 5, 1 << 40, 1<<62 + 3, 1<<63 - 1} {
		if got := ber.Whole(n); len(got) != 0 {
			t.Errorf("P6.3: Whole(%d): %x", n, got)
		}
	}
}

// valueOf is the number that the bytes say, and whether they are as few as possible, and say one from 0 to 2^31 - 1.
func valueOf(b []byte) (int, bool) {
	if len(b) == 0 || len(b) > 4 || b[0] > 127 || len(b) > 1 && b[0] == 0 && b[1] < 128 {
		return 0, false
	}
	n := 0
	for _, c := range b {
		n = n*256 + int(c)
	}
	return n, true
}

func checkWhole(t *testing.T, n int) {
	t.Helper()
	b := ber.Whole(n)
	if got, ok := valueOf(b); got != n || !ok {
		t.Errorf("P6.3: Whole(%d): %x", n, b)
	}
	if got, ok := ber.Number(b); got != n || !ok {
		t.Errorf("P6.3: Number of Whole(%d): %d, %v", n, got, ok)
	}
}

func TestWholeOfManyNumbers(t *testing.T) {
	for n := range 70000 {
		checkWhole(t, n)
	}
	for bit := 16; bit < 31; bit++ {
		for near := -300; near <= 300; near++ {
			checkWhole(t, 1<<bit+near)
		}
	}
	for near := range 300 {
		checkWhole(t, 1<<31-1-near)
	}
	r := numbers(1)
	for range 100000 {
		checkWhole(t, r.below(1<<16)<<15|r.below(1<<15))
	}
}

func checkNumber(t *testing.T, b []byte) {
	t.Helper()
	n, ok := valueOf(b)
	if got, is := ber.Number(b); got != n || is != ok {
		t.Errorf("P6.3: Number(%x): %d, %v", b, got, is)
	}
}

func TestNumberOfShortBytes(t *testing.T) {
	checkNumber(t, nil)
	checkNumber(t, []byte{})
	edges := []byte{0, 1, 2, 126, 127, 128, 129, 254, 255}
	for a := range 256 {
		checkNumber(t, []byte{byte(a)})
		for b := range 256 {
			checkNumber(t, []byte{byte(a), byte(b)})
			for _, c := range edges {
				checkNumber(t, []byte{byte(a), byte(b), c})
				for _, d := range edges {
					checkNumber(t, []byte{byte(a), byte(b), c, d})
				}
			}
		}
	}
}

func TestNumberOfLongBytes(t *testing.T) {
	for size := 5; size < 20; size++ {
		for _, first := range []byte{0, 1, 127, 128, 255} {
			for _, other := range []byte{0, 1, 127, 128, 255} {
				b := bytes.Repeat([]byte{other}, size)
				b[0] = first
				checkNumber(t, b)
				b[1] = 128
				checkNumber(t, b)
			}
		}
	}
	for _, s := range []string{"\x00\x80\x00\x00\x00", "\x00\xff\xff\xff\xff", "\x00\x00\x00\x00\x05", "\x01\x00\x00\x00\x00\x00\x00\x00\x07", "\x00\x00\x00\x00\x00\x00\x00\x00\x07"} {
		if n, ok := ber.Number([]byte(s)); ok || n != 0 {
			t.Errorf("P6.3: Number(%x): %d, %v", s, n, ok)
		}
	}
}

// different are elements no two of which are the same, and some of which are not valid.
func different() []api.Tlv {
	return []api.Tlv{
		{}, leaf(0, "a"), leaf(1, ""), leaf(2, ""), leaf(4, ""), leaf(4, "a"), leaf(4, "b"), leaf(4, "A"), leaf(4, "ab"), leaf(4, "ba"), leaf(4, "\x00"), leaf(4, "\x00\x00"), leaf(5, "a"),
		leaf(31, ""), leaf(63, ""), leaf(255, ""), leaf(128, ""), leaf(132, "a"), leaf(36, ""), leaf(48, "a"), {Tag: 49},
		list(), list(leaf(4, "")), list(leaf(4, "a")), list(leaf(4, "b")), list(leaf(5, "a")), list(leaf(4, "a"), leaf(4, "b")), list(leaf(4, "b"), leaf(4, "a")), list(leaf(4, "a"), leaf(4, "a")),
		list(list()), list(list(), list()), list(list(list())), list(list(leaf(4, "a"))), list(list(leaf(4, "a")), list()), list(list(), list(leaf(4, "a"))),
		{Tag: 49, List: []api.Tlv{leaf(4, "a")}}, {Tag: 4, List: []api.Tlv{leaf(4, "a")}}, {Tag: 4, Bytes: []byte("a"), List: []api.Tlv{leaf(4, "a")}},
		{Tag: 48, Bytes: []byte("a"), List: []api.Tlv{leaf(4, "a")}}, {Tag: 48, Bytes: []byte("b"), List: []api.Tlv{leaf(4, "a")}},
		list(api.Tlv{Tag: 4, Bytes: []byte("a"), List: []api.Tlv{{}}}), list(api.Tlv{Tag: 4, Bytes: []byte("a"), List: []api.Tlv{{Tag: 1}}}),
		long(300), long(301), long(70000),
	}
}

func TestSameOfDifferentElements(t *testing.T) {
	l := different()
	for i, a := range l {
		for j, b := range l {
			for _, deep := range []int{0, 1, 2, 16, 40} {
				if got := ber.Same(nested(a, deep), nested(b, deep)); got != (i == j) {
					t.Errorf("P6.3: Same of %v and %v, %d deep: %v", a, b, deep, got)
				}
			}
			if ber.Same(list(leaf(1, ""), a, leaf(2, "")), list(leaf(1, ""), b, leaf(2, ""))) != (i == j) || ber.Same(list(a, b), list(b, a)) != (i == j) {
				t.Errorf("P6.3: Same of %v and %v in lists", a, b)
			}
		}
	}
}

func TestSameOfEveryTag(t *testing.T) {
	for a := range 256 {
		for b := range 256 {
			x, y := leaf(byte(a), "a"), leaf(byte(b), "a")
			if ber.Same(x, y) != (a == b) || ber.Same(list(x), list(y)) != (a == b) {
				t.Errorf("P6.3: Same of the tags %d and %d", a, b)
			}
		}
	}
}

// An empty slice is equivalent to none (R3).
func TestSameOfEmptySlices(t *testing.T) {
	for _, tag := range []byte{0, 4, 31, 48, 255} {
		a := api.Tlv{Tag: tag}
		b := api.Tlv{Tag: tag, Bytes: []byte{}, List: []api.Tlv{}}
		c := api.Tlv{Tag: tag, Bytes: make([]byte, 0, 4), List: make([]api.Tlv, 0, 4)}
		if !ber.Same(a, b) || !ber.Same(b, c) || !ber.Same(c, a) || !ber.Same(nested(a, 9), nested(b, 9)) {
			t.Errorf("P6.3: empty slices of the tag %d", tag)
		}
	}
}

func TestSameOfManyElements(t *testing.T) {
	n := numbers(3)
	same := 0
	for range 50000 {
		a, b := n.element(2), n.element(2)
		a.Tag, b.Tag = a.Tag&0x21, b.Tag&0x21
		want := equal(a, b)
		if ber.Same(a, b) != want || !ber.Same(a, a) {
			t.Errorf("P6.3: Same of %v and %v is not %v", a, b, want)
		}
		if want {
			same++
		}
	}
	if same < 100 {
		t.Errorf("%d of the elements are the same", same)
	}
}

// Elements may be nested 2^16 deep, valid or not.
func TestDeepElements(t *testing.T) {
	a, b := nested(leaf(4, "a"), 1<<16), nested(leaf(4, "a"), 1<<16)
	if !ber.Same(a, b) || ber.Same(a, nested(leaf(4, "b"), 1<<16)) || ber.Same(a, nested(leaf(4, "a"), 1<<16-1)) {
		t.Error("P6.3: Same of deep elements")
	}
	if got, e := ber.Encode(a); e != api.ErrBerDeep || len(got) != 0 {
		t.Errorf("P6.2: a deep element: %x, %d", got, e)
	}
	deep := bytes.Repeat([]byte{48, 130, 0xff, 0xff}, 1<<16)
	if got, e := ber.Decode(deep[:65535+4]); e != api.ErrBerForm || !none(got) {
		t.Errorf("P6.1: what is inside must be there: %v, %d", got, e)
	}
}

func whole() api.Tlv {
	return list(leaf(2, "\x05"), api.Tlv{Tag: 96, List: []api.Tlv{leaf(4, "cn=a"), leaf(128, ""), list(list(leaf(1, "x"), leaf(1, "x"))), leaf(4, "cn=a")}}, list(), leaf(4, string(make([]byte, 300))))
}

func TestArgumentsAreLeftAlone(t *testing.T) {
	x := whole()
	b, e := ber.Encode(x)
	ber.Same(x, x)
	part := x
	part.List = x.List[:1]
	ber.Encode(part)
	ber.Encode(api.Tlv{Tag: 4, Bytes: x.List[1].List[0].Bytes[:2]})
	ber.Encode(list(api.Tlv{Tag: 4, Bytes: x.List[1].List[0].Bytes[:2]}, leaf(4, "other")))
	if e != api.OK || !equal(x, whole()) {
		t.Error("R5: an argument of Encode or Same, or what lies behind it, was changed")
	}
	before := string(b)
	ber.Decode(b)
	ber.Decode(b[:5])
	ber.Decode(b[2:5])
	ber.Number(b[4:5])
	ber.Number(b)
	if string(b) != before {
		t.Error("R5: an argument of Decode or Number, or what lies behind it, was changed")
	}
}

func TestResultsBelongToCaller(t *testing.T) {
	x := whole()
	b, _ := ber.Encode(x)
	text := string(b)
	first, _ := ber.Decode(b)
	second, _ := ber.Decode(b)
	spoil(first)
	if string(b) != text || !equal(second, whole()) {
		t.Error("P6.1, R6: writing into what was decoded changes something else")
	}
	spoil(api.Tlv{Bytes: b})
	if !equal(second, whole()) || !equal(x, whole()) {
		t.Error("P6.1, R6: what was decoded, or encoded, changes with the bytes")
	}
	for _, one := range []api.Tlv{leaf(4, "abc"), leaf(4, string(make([]byte, 300))), list(leaf(4, "abc"))} {
		got, _ := ber.Encode(one)
		kept := string(got)
		spoil(one)
		if string(got) != kept {
			t.Error("P6.2, R6: a result changes with what was passed in")
		}
	}
	w := ber.Whole(300)
	spoil(api.Tlv{Bytes: w})
	if string(ber.Whole(300)) != "\x01\x2c" || string(ber.Whole(0)) != "\x00" {
		t.Error("P6.3, R6: writing into what Whole returned changes its results")
	}
}

// No two lists of one answer share memory: one may be written to, and appended to, without the others.
func TestListsOfOneResultAreSeparate(t *testing.T) {
	b, _ := ber.Encode(list(leaf(4, "abc"), leaf(4, "abc"), list(leaf(4, "abc")), list(leaf(4, "abc"))))
	x, _ := ber.Decode(b)
	_ = append(x.List[0].Bytes, 'z', 'z', 'z')
	_ = append(x.List[0].Bytes[:0], 'z')
	_ = append(x.List[2].List, leaf(5, ""))
	spoil(x.List[2])
	if string(x.List[1].Bytes) != "abc" || !equal(x.List[3], list(leaf(4, "abc"))) {
		t.Errorf("P6.1, R6: %v", x)
	}
}

func TestSameCallsHaveSameResults(t *testing.T) {
	b, _ := ber.Encode(whole())
	for range 3 {
		for _, wrong := range []string{"", "\x30\x02\x04\x01", "\x1f\x00", "\x04\x00\x00"} {
			if got, e := ber.Decode([]byte(wrong)); e != api.ErrBerForm || !none(got) {
				t.Errorf("P6.1: Decode(%x): %v, %d", wrong, got, e)
			}
		}
		if got, e := ber.Decode(b); e != api.OK || !equal(got, whole()) {
			t.Errorf("R7: an error in between changes what is decoded: %v, %d", got, e)
		}
		if got, e := ber.Encode(nested(list(), api.MaxDeep)); e != api.ErrBerDeep || len(got) != 0 {
			t.Errorf("P6.2: %x, %d", got, e)
		}
		if got, e := ber.Encode(whole()); e != api.OK || !bytes.Equal(got, b) {
			t.Errorf("R7: an error in between changes what is encoded: %x, %d", got, e)
		}
	}
}
