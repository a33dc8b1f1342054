package ber

import "chatelaine/api"

// reader goes through elements that stand one after the other, all of them inside the same ones.
type reader struct {
	depth
	rest []byte // what is still to be read
}

// element reads the element ahead.
func (r *reader) element() (api.Tlv, api.Errno) {
	tag, content, ok := r.parts()
	if !ok {
		return api.Tlv{}, api.ErrBerForm
	}
	if !hasList(tag) {
		// A copy, since the bytes belong to whoever called.
		return api.Tlv{Tag: tag, Bytes: append([]byte(nil), content...)}, api.OK
	}
	if r.full() {
		return api.Tlv{}, api.ErrBerDeep
	}
	inside := reader{depth: r.inner(), rest: content}
	list, e := inside.all()
	if e != api.OK {
		return api.Tlv{}, e
	}
	return api.Tlv{Tag: tag, List: list}, api.OK
}

// all reads up to the end.
func (r *reader) all() ([]api.Tlv, api.Errno) {
	var list []api.Tlv
	for len(r.rest) > 0 {
		t, e := r.element()
		if e != api.OK {
			return nil, e
		}
		list = append(list, t)
	}
	return list, api.OK
}

// parts reads the tag and the content of the element ahead, as the bytes that they are.
func (r *reader) parts() (byte, []byte, bool) {
	tag, ok := r.take(1)
	if !ok || !allowed(tag[0]) {
		return 0, nil, false
	}
	n, ok := r.length()
	if !ok {
		return 0, nil, false
	}
	content, ok := r.take(n)
	return tag[0], content, ok
}

// length reads a length; false if it is not in the shortest form.
func (r *reader) length() (int, bool) {
	first, ok := r.take(1)
	if !ok {
		return 0, false
	}
	switch {
	case first[0] <= mostShort:
		return int(first[0]), true
	case first[0] == oneByte:
		b, ok := r.take(1)
		n := joined(b)
		return n, ok && n > mostShort
	case first[0] == twoBytes:
		b, ok := r.take(2)
		n := joined(b)
		return n, ok && n > mostOfOne
	}
	return 0, false
}

// take goes past so many bytes, if there are so many.
func (r *reader) take(n int) ([]byte, bool) {
	if n > len(r.rest) {
		return nil, false
	}
	taken := r.rest[:n]
	r.rest = r.rest[n:]
	return taken, true
}
