package ber_test

import (
	"bytes"
	"slices"
	"strings"
	"testing"

	"chatelaine/api"
	"chatelaine/ber"
)

// encoded is the encoding of a valid element that is not too long.
func encoded(t api.Tlv) []byte {
	content := slices.Clone(t.Bytes)
	for _, one := range t.List {
		content = slices.Concat(content, encoded(one))
	}
	return slices.Concat([]byte{t.Tag}, lengthOf(len(content)), content)
}

// fault is the error of the first element that is not valid, but for lengths: of them all, laid in a row.
func fault(t api.Tlv) api.Errno {
	type item struct {
		api.Tlv
		outer int
	}
	row := []item{{t, 0}}
	for i := 0; i < len(row); i++ {
		x := row[i]
		bit := x.Tag>>5&1 == 1
		switch {
		case x.Tag%32 == 31, bit && len(x.Bytes) > 0, !bit && len(x.List) > 0:
			return api.ErrBerForm
		case bit && x.outer >= 16:
			return api.ErrBerDeep
		}
		var inside []item
		for _, one := range x.List {
			inside = append(inside, item{one, x.outer + 1})
		}
		row = slices.Insert(row, i+1, inside...)
	}
	return api.OK
}

func encodesTo(t api.Tlv, want string) bool {
	b, e := ber.Encode(t)
	return e == api.OK && string(b) == want
}

func encodingFails(t api.Tlv, want api.Errno) bool {
	b, e := ber.Encode(t)
	return e == want && len(b) == 0
}

func TestEncodeOfKnownElements(t *testing.T) {
	for _, c := range []struct {
		in   api.Tlv
		want string
	}{
		{leaf(4, "ab"), "\x04\x02ab"},
		{list(leaf(4, "ab")), "\x30\x04\x04\x02ab"},
		{api.Tlv{}, "\x00\x00"},
		{list(), "\x30\x00"},
		{list(leaf(4, "ab"), list()), "\x30\x06\x04\x02ab\x30\x00"},
		{list(list(), leaf(4, "ab")), "\x30\x06\x30\x00\x04\x02ab"},
		{api.Tlv{Tag: 0xfe, List: []api.Tlv{leaf(0xde, "\x1f\xff")}}, "\xfe\x04\xde\x02\x1f\xff"},
		{list(leaf(2, "\x01"), api.Tlv{Tag: 96, List: []api.Tlv{leaf(2, "\x03"), leaf(4, "cn=a"), leaf(128, "p")}}), "\x30\x11\x02\x01\x01\x60\x0c\x02\x01\x03\x04\x04cn=a\x80\x01p"},
		{api.Tlv{Tag: 48, Bytes: []byte{}, List: []api.Tlv{{Tag: 4, Bytes: []byte{}, List: []api.Tlv{}}}}, "\x30\x02\x04\x00"},
	} {
		if !encodesTo(c.in, c.want) {
			b, e := ber.Encode(c.in)
			t.Errorf("P6.2: Encode(%v): %x, %d", c.in, b, e)
		}
	}
}

func TestEncodeOfEveryTag(t *testing.T) {
	some := []byte("a")
	inside := []api.Tlv{leaf(4, "")}
	for i := range 256 {
		tag := byte(i)
		for _, x := range []api.Tlv{
			{Tag: tag}, {Tag: tag, Bytes: some}, {Tag: tag, List: inside}, {Tag: tag, Bytes: some, List: inside},
			{Tag: tag, Bytes: []byte{}, List: inside}, {Tag: tag, Bytes: some, List: []api.Tlv{}}, {Tag: tag, Bytes: []byte{0}}, {Tag: tag, List: []api.Tlv{{}}},
		} {
			right := i&31 != 31
			if i&32 == 0 {
				right = right && len(x.List) == 0
			} else {
				right = right && len(x.Bytes) == 0
			}
			for _, y := range []api.Tlv{x, list(x), list(leaf(4, ""), list(), x, leaf(4, "")), nested(x, 15)} {
				if right && !encodesTo(y, string(encoded(y))) || !right && !encodingFails(y, api.ErrBerForm) {
					b, e := ber.Encode(y)
					t.Errorf("P6.2: Encode(%v): %x, %d", y, b, e)
				}
			}
		}
	}
}

func TestEncodeOfEveryLength(t *testing.T) {
	content := bytes.Repeat([]byte("abc"), 1<<16)
	for n := range 65600 {
		if n > 700 && n < 65000 && n%97 != 0 {
			continue
		}
		b, e := ber.Encode(api.Tlv{Tag: 4, Bytes: content[:n]})
		if n > 65535 {
			if e != api.ErrBerForm || len(b) != 0 {
				t.Errorf("P6.2: %d bytes: %d", n, e)
			}
			continue
		}
		head := 1 + len(lengthOf(n))
		if e != api.OK || len(b) != head+n || b[0] != 4 || !bytes.Equal(b[1:head], lengthOf(n)) || !bytes.Equal(b[head:], content[:n]) {
			t.Errorf("P6.2: %d bytes: %d", n, e)
		}
	}
}

// The length of a list is that of what its elements are encoded as.
func TestEncodeOfLongLists(t *testing.T) {
	for _, c := range []struct {
		in  api.Tlv
		fit bool
	}{
		{list(long(121)), true}, {list(long(125)), true}, {list(long(126)), true}, {list(long(127), long(127)), true}, {list(long(250)), true}, {list(long(253)), true},
		{list(long(65531)), true}, {list(long(65532)), false}, {list(long(65535)), false}, {list(long(65536)), false},
		{list(long(65529), leaf(4, "")), true}, {list(long(65530), leaf(4, "")), false}, {list(leaf(4, ""), long(65529)), true}, {list(leaf(4, ""), long(65530)), false},
		{list(list(long(65527))), true}, {list(list(long(65528))), false}, {list(list(long(65531))), false}, {list(list(long(65532))), false},
		{list(long(32000), long(32000)), true}, {list(long(32763), long(32764)), true}, {list(long(32764), long(32764)), false}, {list(long(65535), long(65535)), false},
		{list(slices.Repeat([]api.Tlv{leaf(4, "")}, 32767)...), true}, {list(slices.Repeat([]api.Tlv{leaf(4, "")}, 32768)...), false},
		{list(slices.Repeat([]api.Tlv{list()}, 32767)...), true}, {list(slices.Repeat([]api.Tlv{list()}, 32768)...), false},
		{list(append(slices.Repeat([]api.Tlv{list()}, 32766), leaf(4, "a"))...), true}, {list(append(slices.Repeat([]api.Tlv{list()}, 32767), leaf(4, ""))...), false},
		{nested(long(65535-16*4), 15), true}, {nested(long(65535-15*4), 15), true}, {nested(long(65535-15*4+1), 15), false}, {nested(long(65535-16*4), 16), true}, {nested(long(65535-16*4+1), 16), false},
		{list(leaf(4, ""), long(70000), leaf(4, "")), false}, {list(list(leaf(4, ""), long(65536))), false},
	} {
		if c.fit {
			if !encodesTo(c.in, string(encoded(c.in))) {
				t.Errorf("P6.2: a list of %d bytes is refused", len(encoded(c.in)))
			}
		} else if !encodingFails(c.in, api.ErrBerForm) {
			t.Error("P6.2: a list that is too long is not refused")
		}
	}
	b, e := ber.Encode(list(slices.Repeat([]api.Tlv{leaf(4, "")}, 32767)...))
	if x, f := ber.Decode(b); e != api.OK || f != api.OK || len(x.List) != 32767 {
		t.Errorf("P6.4: a list of 32767: %d, %d, %d", len(x.List), e, f)
	}
}

func TestEncodeOfDepths(t *testing.T) {
	for deep := range 40 {
		for _, one := range []api.Tlv{list(), leaf(4, "a"), leaf(0, ""), {Tag: 0xbe, List: []api.Tlv{leaf(128, "")}}} {
			x := nested(one, deep)
			if deep < api.MaxDeep || deep == api.MaxDeep && one.Tag&32 == 0 {
				if !encodesTo(x, string(encoded(x))) {
					t.Errorf("P6.2: %v, %d deep, is refused", one, deep)
				}
			} else if !encodingFails(x, api.ErrBerDeep) {
				t.Errorf("P6.2: %v, %d deep, is not too deep", one, deep)
			}
		}
	}
	branch := nested(leaf(4, ""), api.MaxDeep-1)
	if x := list(branch, branch, list(), branch); !encodesTo(x, string(encoded(x))) {
		t.Error("P6.2: deep elements one after the other")
	}
}

// The error of the first element counts, from the beginning on; of one element that of its form; lengths come last.
func TestEncodeOfFirstError(t *testing.T) {
	deep := nested(list(), api.MaxDeep)
	inside := []api.Tlv{leaf(4, "")}
	for i, c := range []struct {
		in   api.Tlv
		want api.Errno
	}{
		{list(deep, leaf(31, "")), api.ErrBerDeep},
		{list(leaf(31, ""), deep), api.ErrBerForm},
		{list(api.Tlv{Tag: 4, List: inside}, deep), api.ErrBerForm},
		{list(deep, api.Tlv{Tag: 4, List: inside}), api.ErrBerDeep},
		{list(leaf(48, "a"), deep), api.ErrBerForm},
		{list(deep, leaf(48, "a")), api.ErrBerDeep},
		{list(list(list(), leaf(31, "")), deep), api.ErrBerForm},
		{list(list(list(), leaf(30, "")), deep), api.ErrBerDeep},
		{api.Tlv{Tag: 63, List: []api.Tlv{deep}}, api.ErrBerForm},
		{api.Tlv{Tag: 4, List: []api.Tlv{deep}}, api.ErrBerForm},
		{api.Tlv{Tag: 48, Bytes: []byte("a"), List: []api.Tlv{deep}}, api.ErrBerForm},
		{nested(leaf(63, ""), 16), api.ErrBerForm},
		{nested(leaf(31, ""), 16), api.ErrBerForm},
		{nested(leaf(48, "a"), 16), api.ErrBerForm},
		{nested(api.Tlv{Tag: 48, Bytes: []byte("a"), List: inside}, 16), api.ErrBerForm},
		{nested(api.Tlv{Tag: 4, List: inside}, 16), api.ErrBerForm},
		{nested(api.Tlv{Tag: 4, List: []api.Tlv{list()}}, 16), api.ErrBerForm},
		{nested(list(leaf(31, "")), 16), api.ErrBerDeep},
		{nested(leaf(31, ""), 17), api.ErrBerDeep},
		{nested(api.Tlv{Tag: 48, List: inside}, 16), api.ErrBerDeep},
		{list(long(65536), deep), api.ErrBerDeep},
		{list(deep, long(65536)), api.ErrBerDeep},
		{list(long(40000), long(40000), deep), api.ErrBerDeep},
		{list(append(slices.Repeat([]api.Tlv{list()}, 40000), deep)...), api.ErrBerDeep},
		{nested(long(65536), 16), api.ErrBerForm},
		{nested(list(long(65536)), 16), api.ErrBerDeep},
		{leaf(48, strings.Repeat("a", 65536)), api.ErrBerForm},
	} {
		if !encodingFails(c.in, c.want) {
			b, e := ber.Encode(c.in)
			t.Errorf("P6.2: the case %d: %d bytes, %d", i, len(b), e)
		}
	}
}

// An element that has itself within it is too deep.
func TestEncodeOfElementInItself(t *testing.T) {
	l := []api.Tlv{leaf(4, "a"), {Tag: 48}, {Tag: 48}}
	l[1].List, l[2].List = l, l
	if !encodingFails(l[1], api.ErrBerDeep) {
		t.Error("P6.2: not too deep")
	}
}

// Many elements, some of them spoilt at a place or two, are held against what is said of each of them.
func TestEncodeOfManyElements(t *testing.T) {
	n := numbers(5)
	results := map[api.Errno]int{}
	for range 50000 {
		x := list(n.element(3), n.element(2), n.element(3))
		for range n.below(3) {
			n.spoil(&x)
		}
		x = nested(x, n.below(3)*7)
		want := fault(x)
		results[want]++
		b, e := ber.Encode(x)
		if e != want || e != api.OK && len(b) != 0 {
			t.Errorf("P6.2: Encode(%v): %x, %d, wanted %d", x, b, e, want)
		}
		if e != api.OK {
			continue
		}
		if !bytes.Equal(b, encoded(x)) {
			t.Errorf("P6.2: Encode(%v): %x", x, b)
		}
		if y, f := ber.Decode(b); f != api.OK || !equal(x, y) || !ber.Same(x, y) {
			t.Errorf("P6.4: decoding the encoding of %v: %v, %d", x, y, f)
		}
	}
	if results[api.OK] < 1000 || results[api.ErrBerForm] < 1000 || results[api.ErrBerDeep] < 1000 {
		t.Errorf("some results are rare: %v", results)
	}
}

// spoil makes an element, or one within it, other than it was, most often not valid.
func (n *numbers) spoil(t *api.Tlv) {
	if len(t.List) > 0 && n.below(4) > 0 {
		n.spoil(&t.List[n.below(len(t.List))])
		return
	}
	switch n.below(5) {
	case 0:
		t.Tag |= 31
	case 1:
		t.Tag ^= 32
	case 2:
		t.Bytes = append(t.Bytes, 'a')
	case 3:
		t.List = append(t.List, leaf(4, ""))
	case 4:
		*t = nested(*t, n.below(20))
	}
}
