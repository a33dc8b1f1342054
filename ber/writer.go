package ber

import "chatelaine/api"

// check tells the error of the first element that is not valid, but for lengths.
func check(t api.Tlv, d depth) api.Errno {
	list := hasList(t.Tag)
	if !allowed(t.Tag) || list && len(t.Bytes) > 0 || !list && len(t.List) > 0 {
		return api.ErrBerForm
	}
	if list && d.full() {
		return api.ErrBerDeep
	}
	for _, one := range t.List {
		if e := check(one, d.inner()); e != api.OK {
			return e
		}
	}
	return api.OK
}

// appendElement writes a checked element behind b; false if it, or one within it, is too long.
func appendElement(b []byte, t api.Tlv) ([]byte, bool) {
	content, ok := contentOf(t)
	if !ok {
		return nil, false
	}
	b = appendLength(append(b, t.Tag), len(content))
	return append(b, content...), true
}

// contentOf is what follows an element's length; false if that would be too great. It stops where it gets so, and takes no memory for more.
func contentOf(t api.Tlv) ([]byte, bool) {
	if !hasList(t.Tag) {
		return t.Bytes, len(t.Bytes) <= mostOfTwo
	}
	var b []byte
	for _, one := range t.List {
		more, ok := appendElement(b, one)
		if !ok || len(more) > mostOfTwo {
			return nil, false
		}
		b = more
	}
	return b, true
}

// appendLength writes a length, in the shortest form, behind b.
func appendLength(b []byte, n int) []byte {
	switch {
	case n <= mostShort:
		return append(b, byte(n))
	case n <= mostOfOne:
		return append(b, oneByte, byte(n))
	}
	return append(b, twoBytes, byte(n>>8), byte(n))
}
