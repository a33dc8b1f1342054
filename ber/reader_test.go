package ber_test

import (
	"bytes"
	"slices"
	"strings"
	"testing"

	"chatelaine/api"
	"chatelaine/ber"
)

// place is one among bytes that are decoded: up to end all is inside the same elements.
type place struct{ at, end, outer int }

// decoded is what Decode must answer: a second reader, which works by places.
func decoded(b []byte) (api.Tlv, api.Errno) {
	p := place{end: len(b)}
	t, e := p.element(b)
	if e == api.OK && p.at != p.end {
		return api.Tlv{}, api.ErrBerForm
	}
	return t, e
}

// element reads that of the place, and goes behind it.
func (p *place) element(b []byte) (api.Tlv, api.Errno) {
	head, n := sizes(b[p.at:p.end])
	if head == 0 || p.at+head+n > p.end {
		return api.Tlv{}, api.ErrBerForm
	}
	t := api.Tlv{Tag: b[p.at]}
	in := place{at: p.at + head, end: p.at + head + n, outer: p.outer + 1}
	p.at = in.end
	if t.Tag/32%2 == 0 {
		t.Bytes = b[in.at:in.end]
		return t, api.OK
	}
	if p.outer == 16 {
		return api.Tlv{}, api.ErrBerDeep
	}
	for in.at < in.end {
		one, e := in.element(b)
		if e != api.OK {
			return api.Tlv{}, e
		}
		t.List = append(t.List, one)
	}
	return t, api.OK
}

// sizes are those of a tag with a length, which the bytes begin with, and of what follows; 0 of the first if they begin otherwise.
func sizes(b []byte) (int, int) {
	if len(b) > 0 && b[0]%32 == 31 {
		return 0, 0
	}
	for _, head := range []int{2, 3, 4} {
		if len(b) < head {
			return 0, 0
		}
		n := 0
		if head > 2 && int(b[1]) == 126+head {
			for _, c := range b[2:head] {
				n = n*256 + int(c)
			}
		} else {
			n = int(b[1])
		}
		if bytes.Equal(b[1:head], lengthOf(n)) {
			return head, n
		}
	}
	return 0, 0
}

// lengthOf is a length in the shortest form.
func lengthOf(n int) []byte {
	if n < 128 {
		return []byte{byte(n)}
	}
	if n < 256 {
		return []byte{129, byte(n)}
	}
	return []byte{130, byte(n / 256), byte(n % 256)}
}

func decodesTo(b string, want api.Tlv) bool {
	got, e := ber.Decode([]byte(b))
	return e == api.OK && equal(got, want)
}

func fails(b string, want api.Errno) bool {
	got, e := ber.Decode([]byte(b))
	return e == want && none(got)
}

// around are the bytes with the heads of so many lists ahead of them.
func around(b string, deep int) string {
	for range deep {
		b = "\x30" + string(lengthOf(len(b))) + b
	}
	return b
}

func TestDecodeOfKnownBytes(t *testing.T) {
	for b, want := range map[string]api.Tlv{
		"\x04\x02ab":                       leaf(4, "ab"),
		"\x30\x04\x04\x02ab":               list(leaf(4, "ab")),
		"\x30\x00":                         list(),
		"\x00\x00":                         leaf(0, ""),
		"\x04\x00":                         leaf(4, ""),
		"\x30\x06\x04\x02ab\x30\x00":       list(leaf(4, "ab"), list()),
		"\x30\x06\x30\x04\x30\x02\x30\x00": list(list(list(list()))),
		"\x20\x02\x00\x00":                 {Tag: 32, List: []api.Tlv{{}}},
		"\xfe\x04\xde\x02\x1f\x3f":         {Tag: 0xfe, List: []api.Tlv{leaf(0xde, "\x1f\x3f")}},
		"\x04\x81\x80" + strings.Repeat("a", 128):                  leaf(4, strings.Repeat("a", 128)),
		"\x04\x82\x01\x00" + strings.Repeat("a", 256):              leaf(4, strings.Repeat("a", 256)),
		"\x30\x0c\x02\x01\x07\x61\x07\x0a\x01\x00\x04\x00\x04\x00": list(leaf(2, "\x07"), api.Tlv{Tag: 97, List: []api.Tlv{leaf(10, "\x00"), leaf(4, ""), leaf(4, "")}}),
	} {
		if !decodesTo(b, want) {
			got, e := ber.Decode([]byte(b))
			t.Errorf("P6.1: Decode(%x): %v, %d", b, got, e)
		}
	}
}

func TestDecodeRefuses(t *testing.T) {
	for _, b := range []string{
		"", "\x04", "\x30", "\x1f", "\x1f\x00", "\x3f\x00", "\x5f\x00", "\x7f\x00", "\x9f\x01a", "\xbf\x00", "\xdf\x00", "\xff\x00", "\x1f\x1f\x00",
		"\x04\x80", "\x04\x80a\x00\x00", "\x30\x80\x00\x00", "\x04\x83\x00\x00\x01a", "\x04\x83\x01\x00\x00", "\x04\x84\x00\x00\x00\x01a", "\x04\xff", "\x04\x7fa",
		"\x04\x81", "\x04\x81\x00", "\x04\x81\x02ab", "\x04\x81\x80", "\x04\x82", "\x04\x82\x01", "\x04\x82\x00\x00", "\x04\x82\x00\x02ab", "\x04\x82\x01\x00",
		"\x04\x01", "\x04\x02a", "\x04\x00\x00", "\x04\x01ab", "\x04\x00\x04\x00", "\x30\x00\x30\x00",
		"\x30\x01", "\x30\x01\x04", "\x30\x02\x04", "\x30\x02\x04\x01", "\x30\x02\x04\x01a", "\x30\x03\x04\x02ab", "\x30\x03\x04\x00\x04", "\x30\x03\x04\x00\x04\x00", "\x30\x01\x00\x00",
		"\x30\x02\x1f\x00", "\x30\x02\x04\x80", "\x30\x04\x04\x00\x3f\x00", "\x30\x05\x04\x81\x02ab", "\x30\x04\x30\x03\x04\x00", "\x30\x04\x30\x03\x04\x01a", "\x30\x03\x30\x02\x04\x00",
	} {
		if !fails(b, api.ErrBerForm) {
			got, e := ber.Decode([]byte(b))
			t.Errorf("P6.1: Decode(%x): %v, %d", b, got, e)
		}
	}
}

func TestDecodeOfEveryTag(t *testing.T) {
	for i := range 256 {
		tag := byte(i)
		one := string([]byte{tag, 2, 4, 0})
		want := api.Tlv{Tag: tag, Bytes: []byte{4, 0}}
		if i&32 != 0 {
			want = api.Tlv{Tag: tag, List: []api.Tlv{{Tag: 4}}}
		}
		for _, deep := range []int{0, 1, 15} {
			if i&31 == 31 {
				if !fails(around(one, deep), api.ErrBerForm) || !fails(around("\x04\x00"+one, deep+1), api.ErrBerForm) {
					t.Errorf("P6.1: the tag %d, %d deep", i, deep)
				}
			} else if !decodesTo(around(one, deep), nested(want, deep)) || !decodesTo(around("\x04\x00"+one, 1), list(leaf(4, ""), want)) {
				t.Errorf("P6.1: the tag %d, %d deep", i, deep)
			}
		}
	}
}

// Every first byte of a length is tried with many bytes behind it, and with as many more as they could mean.
func TestDecodeOfEveryLength(t *testing.T) {
	content := bytes.Repeat([]byte{0x01, 0x80, 0xff}, 1<<15)
	results := map[api.Errno]int{}
	try := func(n int, length ...byte) {
		results[checkDecode(t, slices.Concat([]byte{4}, length, content[:n]))]++
	}
	edges := []byte{0, 1, 127, 128, 129, 255}
	for i := range 256 {
		a := byte(i)
		try(0, a)
		try(i, a)
		try(i&127, a)
		for _, b := range edges {
			try(0, a, b)
			try(int(b), a, b)
			for _, c := range edges {
				try(0, a, b, c)
				try(int(c), a, b, c)
				try(int(b), a, b, c)
			}
		}
	}
	for i := range 256 {
		b := byte(i)
		for _, a := range []byte{128, 129, 130, 131, 132, 255} {
			try(i, a, b)
			for _, c := range edges {
				try(i<<8|int(c), a, b, c)
				try(i<<8|int(c), a, c, b)
				try(int(c)<<8|i, a, c, b)
			}
		}
	}
	if results[api.OK] < 2000 || results[api.ErrBerForm] < 2000 {
		t.Errorf("some results are rare: %v", results)
	}
}

// Each length is decoded with as many bytes, with one less, and with one more.
func TestDecodeOfMissingAndMoreBytes(t *testing.T) {
	for _, n := range []int{0, 1, 2, 126, 127, 128, 129, 254, 255, 256, 257, 511, 512, 65279, 65280, 65534, 65535} {
		b := "\x04" + string(lengthOf(n)) + strings.Repeat("a", n)
		if !decodesTo(b, leaf(4, strings.Repeat("a", n))) {
			t.Errorf("P6.1: %d bytes", n)
		}
		if !fails(b[:len(b)-1], api.ErrBerForm) || !fails(b+"a", api.ErrBerForm) || !fails(b+"\x04\x00", api.ErrBerForm) {
			t.Errorf("P6.1: one less or more than %d bytes", n)
		}
		if n > 3 && n < 65000 && (!fails("\x30"+string(lengthOf(len(b)-1))+b, api.ErrBerForm) || !fails("\x30"+string(lengthOf(len(b)+1))+b+"a", api.ErrBerForm)) {
			t.Errorf("P6.1: %d bytes in a list that is one shorter or longer", n)
		}
	}
}

// The contents of an element are read only within its length, and what is left within it begins the next one.
func TestDecodeReadsWithinLengths(t *testing.T) {
	for _, b := range []string{
		"\x30\x03\x04\x02a\x62", "\x30\x01\x04\x00", "\x30\x02\x04\x81\x80", "\x30\x03\x04\x82\x01\x00",
		"\x30\x06\x30\x02\x04\x02ab", "\x30\x06\x30\x01\x04\x01\x04\x00", "\x30\x04\x30\x01\x04\x00", "\x30\x05\x30\x03\x04\x02a" + "b",
	} {
		for _, more := range []string{"", "a", "\x04\x00", strings.Repeat("a", 300)} {
			if !fails(b+more, api.ErrBerForm) {
				t.Errorf("P6.1: bytes outside are read: %x", b+more)
			}
		}
	}
	if !decodesTo("\x30\x05\x04\x01\x04\x04\x00", list(leaf(4, "\x04"), leaf(4, ""))) || !decodesTo("\x30\x06\x30\x02\x04\x00\x05\x00", list(list(leaf(4, "")), leaf(5, ""))) {
		t.Error("P6.1: what is left is not the next element")
	}
}

func TestDecodeOfDepths(t *testing.T) {
	for deep := range 40 {
		for b, one := range map[string]api.Tlv{"\x30\x00": list(), "\x04\x01a": leaf(4, "a"), "\xbe\x02\x80\x00": {Tag: 0xbe, List: []api.Tlv{leaf(128, "")}}} {
			fits := deep < api.MaxDeep || deep == api.MaxDeep && one.Tag&32 == 0
			if fits && !decodesTo(around(b, deep), nested(one, deep)) {
				t.Errorf("P6.1: %x, %d deep, is refused", b, deep)
			}
			if !fits && !fails(around(b, deep), api.ErrBerDeep) {
				t.Errorf("P6.1: %x, %d deep, is not too deep", b, deep)
			}
		}
	}
}

// An element that is left is left: the depth is that of the next one again.
func TestDecodeOfDepthsSideBySide(t *testing.T) {
	branch := around("\x04\x00", api.MaxDeep-1)
	b := around(branch+branch+"\x30\x00"+branch, 1)
	deep := nested(leaf(4, ""), api.MaxDeep-1)
	if !decodesTo(b, list(deep, deep, list(), deep)) {
		t.Error("P6.1: deep elements one after the other")
	}
	b = around(strings.Repeat("\x30\x00", 40), api.MaxDeep-1)
	if !decodesTo(b, nested(list(slices.Repeat([]api.Tlv{list()}, 40)...), api.MaxDeep-2)) {
		t.Error("P6.1: many empty lists, 15 deep")
	}
	if !decodesTo(around(strings.Repeat("\x04\x00", 40), api.MaxDeep), nested(list(slices.Repeat([]api.Tlv{leaf(4, "")}, 40)...), api.MaxDeep-1)) {
		t.Error("P6.1: many elements, 16 deep")
	}
	if !fails(around(branch+"\x30\x00"+around("\x30\x00", api.MaxDeep-1), 1), api.ErrBerDeep) {
		t.Error("P6.1: the last one is too deep")
	}
}

// Of one element the errors of its tag, its length and missing bytes come ahead of its depth, and that ahead of its contents.
func TestDecodeOfErrorsOfOneElement(t *testing.T) {
	for b, want := range map[string]api.Errno{
		"\x30\x00": api.ErrBerDeep, "\x3f\x00": api.ErrBerForm, "\x1f\x00": api.ErrBerForm, "\xff\x00": api.ErrBerForm,
		"\x30": api.ErrBerForm, "\x30\x80": api.ErrBerForm, "\x30\x81\x00": api.ErrBerForm, "\x30\x81": api.ErrBerForm, "\x30\x82\x00\x02\x04\x00": api.ErrBerForm, "\x30\x83\x00\x00\x00": api.ErrBerForm,
		"\x30\x01": api.ErrBerForm, "\x30\x03\x04\x00": api.ErrBerForm, "\x30\x7f\x30\x00": api.ErrBerForm,
		"\x30\x01\x04": api.ErrBerDeep, "\x30\x02\x1f\x00": api.ErrBerDeep, "\x30\x02\x04\x80": api.ErrBerDeep, "\x30\x02\x04\x01": api.ErrBerDeep, "\x30\x02\x30\x00": api.ErrBerDeep,
		"\x30\x00\x1f\x00": api.ErrBerDeep, "\x30\x00\x04": api.ErrBerDeep, "\x04\x00\x30\x00": api.ErrBerDeep, "\x1f\x00\x30\x00": api.ErrBerForm, "\x04\x05\x30\x00": api.ErrBerForm,
	} {
		if !fails(around(b, api.MaxDeep), want) {
			got, e := ber.Decode([]byte(around(b, api.MaxDeep)))
			t.Errorf("P6.1: %x, 16 deep: %v, %d", b, got, e)
		}
	}
}

// The first error counts, from the beginning on.
func TestDecodeOfFirstError(t *testing.T) {
	deep := around("\x30\x00", api.MaxDeep)
	for b, want := range map[string]api.Errno{
		deep:                                api.ErrBerDeep,
		deep + "a":                          api.ErrBerDeep,
		deep + "\x1f\x00":                   api.ErrBerDeep,
		deep[:len(deep)-1]:                  api.ErrBerForm,
		around(deep+"\x1f\x00", 1):          api.ErrBerDeep,
		around(deep+"\x04\x05", 1):          api.ErrBerDeep,
		around("\x1f\x00"+deep, 1):          api.ErrBerForm,
		around("\x04\x81\x00"+deep, 1):      api.ErrBerForm,
		around("\x30\x02\x04\x01"+deep, 1):  api.ErrBerForm,
		around("\x30\x02\x04\x00"+deep, 1):  api.ErrBerDeep,
		around("\x04\x00"+deep, 1) + "\x04": api.ErrBerDeep,
		"\x04\x00" + deep:                   api.ErrBerForm,
		"\x30\x00" + deep:                   api.ErrBerForm,
		around("\x04\x7f"+deep, 1):          api.ErrBerForm,
	} {
		if !fails(b, want) {
			got, e := ber.Decode([]byte(b))
			t.Errorf("P6.1: Decode(%x): %v, %d", b, got, e)
		}
	}
}

func checkDecode(t *testing.T, b []byte) api.Errno {
	t.Helper()
	want, e := decoded(b)
	got, f := ber.Decode(b)
	if e != f || !equal(got, want) {
		t.Errorf("P6.1: Decode(%x): %v, %d, wanted %v, %d", b, got, f, want, e)
	}
	if f == api.OK {
		if again, g := ber.Encode(got); g != api.OK || !bytes.Equal(again, b) {
			t.Errorf("P6.4: encoding what %x was decoded to: %x, %d", b, again, g)
		}
	}
	return f
}

// All short bytes of those that a reader tells from each other are held against the second reader.
func TestDecodeOfShortBytes(t *testing.T) {
	letters := []byte{0, 1, 2, 3, 4, 31, 48, 127, 129, 130}
	right := 0
	var all func(b []byte, more int)
	all = func(b []byte, more int) {
		if checkDecode(t, b) == api.OK {
			right++
		}
		if more > 0 {
			for _, c := range letters {
				all(append(b, c), more-1)
			}
		}
	}
	all(make([]byte, 0, 6), 6)
	if right < 1000 {
		t.Errorf("%d of the bytes are encodings", right)
	}
}

// Encodings of many elements are changed at a few places, and held against the second reader.
func TestDecodeOfChangedBytes(t *testing.T) {
	n := numbers(7)
	results := map[api.Errno]int{}
	for range 100000 {
		x := n.element(3)
		if n.below(2) == 0 {
			x = nested(x, n.below(17))
		}
		b := encoded(x)
		for range n.below(3) {
			i := n.below(len(b))
			switch n.below(4) {
			case 0:
				b[i] = byte(n.below(256))
			case 1:
				b[i]++
			case 2:
				b[i] ^= 32
			case 3:
				b = slices.Insert(b, i, byte(n.below(256)))
			}
		}
		results[checkDecode(t, b)]++
	}
	if results[api.OK] < 1000 || results[api.ErrBerForm] < 1000 || results[api.ErrBerDeep] < 1000 {
		t.Errorf("some results are rare: %v", results)
	}
}

// No proper prefix of an element's encoding is an encoding.
func TestDecodeOfPrefixes(t *testing.T) {
	n := numbers(9)
	for range 3000 {
		b := encoded(nested(n.element(3), n.below(14)))
		for i := range b {
			if got, e := ber.Decode(b[:i]); e != api.ErrBerForm || !none(got) {
				t.Errorf("P6.4: %d bytes of %x: %v, %d", i, b, got, e)
			}
		}
		for _, c := range []byte{0, 4, 48, 'a', 255} {
			if got, e := ber.Decode(append(slices.Clone(b), c)); e != api.ErrBerForm || !none(got) {
				t.Errorf("P6.1: %x and %x: %v, %d", b, c, got, e)
			}
		}
	}
}

func FuzzDecode(f *testing.F) {
	f.Add([]byte("\x30\x06\x04\x02ab\x30\x00"))
	f.Add([]byte(around("\x30\x00", api.MaxDeep)))
	f.Add([]byte("\x04\x81\x80" + strings.Repeat("a", 128)))
	f.Fuzz(func(t *testing.T, b []byte) { checkDecode(t, b) })
}
