package sector

import (
	"slices"

	"chatelaine/api"
)

const (
	markSize = 8
	backMark = markSize + api.Payload // where the mark behind the payload begins
	atOnce   = 8                      // bytes that are written, or not, but never torn
	chunks   = api.Sector / atOnce
)

// version is all that was written to a sector at some time: a mark, the payload, and the mark again, so that a torn one shows.
type version [api.Sector]byte

func versionOf(mark uint64, b []byte) version {
	var v version
	m := markBytes(mark)
	copy(v[:markSize], m[:])
	copy(v[markSize:backMark], b)
	copy(v[backMark:], m[:])
	return v
}

func markBytes(mark uint64) [markSize]byte {
	var m [markSize]byte
	for i := range m {
		m[i] = byte(mark >> (8 * i))
	}
	return m
}

func markOf(b []byte) uint64 {
	var mark uint64
	for i, x := range b {
		mark |= uint64(x) << (8 * i)
	}
	return mark
}

func (v *version) front() uint64 { return markOf(v[:markSize]) }

func (v *version) back() uint64 { return markOf(v[backMark:]) }

func (v *version) isWhole() bool { return v.front() == v.back() }

func (v *version) payload() []byte { return slices.Clone(v[markSize:backMark]) }

// found is what a crash leaves of a sector, by a number: its durable version, one of those that were written since then, or a torn one.
func found(durable version, since []version, p int) version {
	j := p % (len(since) + 1)
	if j == 0 {
		return durable
	}
	v := since[j-1]
	c := p / (len(since) + 1) % chunks * atOnce
	if c == 0 {
		return v
	}
	torn := durable
	if j > 1 {
		torn = since[j-2]
	}
	copy(torn[:c], v[:c])
	return torn
}
