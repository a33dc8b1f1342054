package sector

import (
	"bytes"
	"math"
	"testing"

	"chatelaine/api"
)

// What a sector's bytes are shows from outside only in whether it is torn; so they are asked for here.

// newest is the bytes that a sector has now.
func newest(d *Disk, n int) []byte {
	v := d.current(n)
	return v[:]
}

// whole is a sector's bytes with a mark of one byte.
func whole(mark byte, s string) []byte {
	b := make([]byte, 256)
	b[0], b[248] = mark, mark
	copy(b[8:248], s)
	return b
}

func TestBytesOfASector(t *testing.T) {
	d := New(3)
	if !bytes.Equal(newest(d, 0), make([]byte, 256)) {
		t.Error("P14.1: not all bytes are 0")
	}
	d.Write(1, []byte("abc"))
	d.Write(1, bytes.Repeat([]byte("z"), api.Payload))
	d.Write(0, nil)
	if !bytes.Equal(newest(d, 0), whole(3, "")) || !bytes.Equal(newest(d, 1), whole(2, string(bytes.Repeat([]byte("z"), 240)))) {
		t.Errorf("P14.2: %v, %v", newest(d, 0), newest(d, 1))
	}
	c := d.Crash([]int{0, 1})
	if !bytes.Equal(newest(c, 0), make([]byte, 256)) || !bytes.Equal(newest(c, 1), whole(1, "abc")) {
		t.Errorf("P14.4: %v, %v", newest(c, 0), newest(c, 1))
	}
}

func TestMarksLeastSignificantFirst(t *testing.T) {
	for mark, want := range map[uint64][8]byte{0: {}, 1: {1}, 255: {255}, 256: {0, 1}, 0x0102030405060708: {8, 7, 6, 5, 4, 3, 2, 1}, 1 << 63: {7: 128}, math.MaxUint64: {255, 255, 255, 255, 255, 255, 255, 255}} {
		v := versionOf(mark, []byte("x"))
		if [8]byte(v[:8]) != want || [8]byte(v[248:]) != want || v.front() != mark || v.back() != mark || v[8] != 'x' {
			t.Errorf("P14.2: mark %d: %v", mark, v)
		}
	}
}

// A sector is whole if its marks are equal in all their bytes.
func TestWhole(t *testing.T) {
	v := versionOf(0x0102030405060708, []byte("x"))
	if !v.isWhole() {
		t.Error("P14.3: a whole sector is torn")
	}
	for i := range v {
		w := v
		w[i] ^= 128
		if w.isWhole() != (8 <= i && i < 248) {
			t.Errorf("P14.3: byte %d changed: whole: %v", i, w.isWhole())
		}
	}
}

// markIs asks for the next mark of a disk.
func markIs(t *testing.T, what string, d *Disk, want uint64) {
	t.Helper()
	c := d.Clone()
	c.Write(0, nil)
	v := c.current(0)
	if v.front() != want || v.back() != want {
		t.Errorf("%s: the next mark is %d, and %d, want %d", what, v.front(), v.back(), want)
	}
}

func TestNextMark(t *testing.T) {
	d := New(3)
	markIs(t, "a new disk", d, 1)
	for i := range 6 {
		d.Write(i%2, nil)
		markIs(t, "one mark for all sectors", d, uint64(i+2))
	}
	d.Write(3, nil)
	markIs(t, "a Write that is not done", d, 7)
	d.Sync()
	markIs(t, "synced", d, 7)
	d.Write(2, nil) // mark 7
	d.Write(1, nil) // mark 8
	d.Write(1, nil) // mark 9
	markIs(t, "all is lost", d.Crash(nil), 7)
	markIs(t, "the mark 9 is found", d.Crash([]int{2}), 10)
	markIs(t, "the mark 8 is found", d.Crash([]int{1}), 9)
	markIs(t, "the mark 7 is found", d.Crash([]int{0, 1}), 8)
	markIs(t, "the front of mark 9 is found", d.Crash([]int{5}), 10)
	markIs(t, "the front of mark 7 is found", d.Crash([]int{0, 3}), 8)
	d.Arm(0)
	d.Write(0, nil)
	c := d.Crash([]int{1})
	markIs(t, "a Write at which the disk dies", c, 11)
	c.Arm(0)
	c.Sync()
	markIs(t, "a Sync at which it dies", c.Crash(nil), 11)
}

func TestNextMarkBehindBothMarks(t *testing.T) {
	d := New(2)
	d.durable[1] = versionOf(1<<40, nil)
	markIs(t, "both", d.Crash(nil), 1<<40+1)
	copy(d.durable[1][:], make([]byte, 8))
	markIs(t, "the back one", d.Crash(nil), 1<<40+1)
	d.durable[0] = versionOf(math.MaxUint64-1, nil)
	c := d.Crash(nil)
	for _, want := range []uint64{math.MaxUint64, 0, 0} {
		markIs(t, "modulo 2^64", c, want)
		c.Write(1, nil)
	}
}

func TestBytesOfATornSector(t *testing.T) {
	var all [4][]byte
	d := New(2)
	d.Write(1, bytes.Repeat([]byte{200}, 240))
	d.Sync()
	all[0] = newest(d, 1)
	for i := range 3 {
		d.Write(1, bytes.Repeat([]byte{byte(i + 1)}, 240))
		all[i+1] = newest(d, 1)
	}
	for p := range 4 * 32 * 2 {
		j, c := p%4, p/4%32*8
		want := all[j]
		if j > 0 && c > 0 {
			want = append(bytes.Clone(all[j][:c]), all[j-1][c:]...)
		}
		found := d.Crash([]int{p})
		if !bytes.Equal(newest(found, 1), want) {
			t.Errorf("P14.4: pick %d: %v, want %v", p, newest(found, 1), want)
		}
		if !bytes.Equal(newest(found, 0), make([]byte, 256)) {
			t.Errorf("P14.4: pick %d: sector 0: %v", p, newest(found, 0))
		}
	}
	for i, b := range all {
		if i > 0 && !bytes.Equal(d.since[1][i-1][:], b) || i == 0 && !bytes.Equal(d.durable[1][:], b) {
			t.Errorf("P14.4: the version %d has changed", i)
		}
	}
}
