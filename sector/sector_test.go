package sector_test

import (
	"bytes"
	"math"
	"slices"
	"strings"
	"testing"

	"chatelaine/api"
	"chatelaine/sector"
)

// padded is a payload that begins with a text.
func padded(s string) []byte { return append([]byte(s), make([]byte, api.Payload-len(s))...) }

func write(t *testing.T, d *sector.Disk, n int, s string) {
	t.Helper()
	if e := d.Write(n, []byte(s)); e != api.OK {
		t.Fatalf("P14.2: Write(%d, %q): %d", n, s, e)
	}
}

func sync(t *testing.T, d *sector.Disk) {
	t.Helper()
	if e := d.Sync(); e != api.OK {
		t.Fatalf("P14.2: Sync: %d", e)
	}
}

// holds asks for the payloads of all sectors: "torn" of a torn one.
func holds(t *testing.T, what string, d *sector.Disk, want ...string) {
	t.Helper()
	if d.Many() != len(want) {
		t.Fatalf("%s: %d sectors, want %d", what, d.Many(), len(want))
	}
	for n, s := range want {
		b, e := d.Read(n)
		if s == "torn" {
			if e != api.ErrSectorTorn || len(b) != 0 {
				t.Errorf("%s: sector %d: %q, %d, want a torn one", what, n, b, e)
			}
		} else if e != api.OK || !bytes.Equal(b, padded(s)) {
			t.Errorf("%s: sector %d: %q, %d, want %q", what, n, b, e, s)
		}
	}
}

// is asks for what a disk tells of itself.
func is(t *testing.T, what string, d *sector.Disk, steps int, dead bool) {
	t.Helper()
	if d.Steps() != steps || d.Dead() != dead {
		t.Errorf("%s: %d steps, dead: %v, want %d, %v", what, d.Steps(), d.Dead(), steps, dead)
	}
}

func TestNew(t *testing.T) {
	for many, want := range map[int]int{math.MinInt: 0, -65536: 0, -1: 0, 0: 0, 1: 1, 2: 2, 255: 255, 65535: 65535, 65536: 65536, 65537: 65536, 1 << 32: 65536, 1<<32 + 1: 65536, math.MaxInt: 65536} {
		d := sector.New(many)
		if d.Many() != want {
			t.Errorf("P14.1: New(%d) has %d sectors, want %d", many, d.Many(), want)
		}
		is(t, "P14.1", d, 0, false)
		if want <= 255 || want == 65536 && many > 0 {
			holds(t, "P14.1", d, make([]string, want)...)
		}
	}
	d := sector.New(3)
	holds(t, "P14.1: all is durable", d.Crash([]int{1, 3, 5}), "", "", "")
}

// No disk knows of another one.
func TestNewDisksAreApart(t *testing.T) {
	a, b := sector.New(2), sector.New(2)
	write(t, a, 1, "a")
	a.Arm(0)
	a.Sync()
	holds(t, "P14.1", b, "", "")
	is(t, "P14.1", b, 0, false)
}

// places are numbers of which a disk of three sectors has none.
var places = []int{3, 4, 65536, 1 << 32, 1<<32 + 1, math.MaxInt, -1, -2, -3, -1 << 32, math.MinInt}

func TestRange(t *testing.T) {
	for _, many := range []int{0, 1, 3} {
		d := sector.New(many)
		for _, n := range append([]int{many}, places...) {
			if b, e := d.Read(n); e != api.ErrSectorRange || len(b) != 0 {
				t.Errorf("P14.3: Read(%d) of %d sectors: %q, %d", n, many, b, e)
			}
			for _, b := range [][]byte{nil, []byte("a"), make([]byte, api.Payload+1)} {
				if e := d.Write(n, b); e != api.ErrSectorRange {
					t.Errorf("P14.2: Write(%d, %d bytes) of %d sectors: %d", n, len(b), many, e)
				}
			}
		}
		is(t, "P14.2: what is out of range is no step", d, 0, false)
		holds(t, "P14.2: what is out of range is not done", d, make([]string, many)...)
	}
}

func TestWriteOfEveryLength(t *testing.T) {
	long := strings.Repeat("xyz", 100)
	d := sector.New(2)
	steps := 0
	for length := range 300 {
		before, _ := d.Read(1)
		e := d.Write(1, []byte(long[:length]))
		if length > api.Payload {
			if e != api.ErrSectorRange {
				t.Errorf("P14.2: Write of %d bytes: %d", length, e)
			}
			holds(t, "P14.2: nothing is written", d, "", string(before))
		} else {
			steps++
			if e != api.OK {
				t.Errorf("P14.2: Write of %d bytes: %d", length, e)
			}
			holds(t, "P14.2", d, "", long[:length])
		}
		is(t, "P14.2", d, steps, false)
	}
	write(t, d, 1, "ab")
	holds(t, "P14.2: what is short is padded, whatever was there", d, "", "ab")
	if e := d.Write(1, nil); e != api.OK {
		t.Errorf("P14.2: Write of nil: %d", e)
	}
	holds(t, "P14.2", d, "", "")
	for x := range 256 {
		b := bytes.Repeat([]byte{byte(x)}, api.Payload)
		write(t, d, 0, string(b))
		holds(t, "P14.2", d, string(b), "")
	}
}

func TestWriteOfEverySector(t *testing.T) {
	d := sector.New(5)
	want := make([]string, 5)
	for _, n := range []int{2, 0, 4, 1, 3, 0, 2, 4} {
		want[n] += string(rune('a' + n))
		write(t, d, n, want[n])
		holds(t, "P14.2", d, want...)
	}
	sync(t, d)
	holds(t, "P14.2", d, want...)
	big := sector.New(65536)
	write(t, big, 65535, "last")
	write(t, big, 0, "first")
	sync(t, big)
	all := make([]string, 65536)
	all[0], all[65535] = "first", "last"
	holds(t, "P14.2", big.Crash(nil), all...)
}

func TestSync(t *testing.T) {
	d := sector.New(3)
	sync(t, d)
	is(t, "P14.2: a Sync of nothing is a step", d, 1, false)
	write(t, d, 0, "a")
	write(t, d, 2, "b")
	write(t, d, 2, "c")
	holds(t, "P14.4: nothing is durable yet", d.Crash(nil), "", "", "")
	sync(t, d)
	is(t, "P14.2", d, 5, false)
	for p := range 200 {
		holds(t, "P14.2: each sector has one version", d.Crash([]int{p, p, p}), "a", "", "c")
	}
	write(t, d, 0, "d")
	holds(t, "P14.2", d.Crash(nil), "a", "", "c")
	holds(t, "P14.2", d.Crash([]int{1}), "d", "", "c")
	holds(t, "P14.2", d.Crash([]int{3}), "torn", "", "c")
	sync(t, d)
	holds(t, "P14.2", d.Crash(nil), "d", "", "c")
}

func TestWriteThatIsTheLast(t *testing.T) {
	d := sector.New(2)
	write(t, d, 0, "a")
	sync(t, d)
	d.Arm(0)
	if e := d.Write(0, []byte("b")); e != api.ErrSectorDead {
		t.Errorf("P14.2: Write at which the disk dies: %d", e)
	}
	is(t, "P14.2", d, 3, true)
	holds(t, "P14.2: it is done nevertheless", d, "b", "")
	holds(t, "P14.4", d.Crash(nil), "a", "")
	holds(t, "P14.4", d.Crash([]int{1}), "b", "")
	holds(t, "P14.4", d.Crash([]int{3}), "torn", "")
}

func TestSyncThatIsTheLast(t *testing.T) {
	d := sector.New(2)
	write(t, d, 0, "a")
	d.Arm(0)
	if e := d.Sync(); e != api.ErrSectorDead {
		t.Errorf("P14.2: Sync at which the disk dies: %d", e)
	}
	is(t, "P14.2", d, 2, true)
	holds(t, "P14.2: what was written is there", d, "a", "")
	holds(t, "P14.2: the Sync is not done", d.Crash(nil), "", "")
	holds(t, "P14.2: the Sync is not done", d.Crash([]int{1}), "a", "")
	holds(t, "P14.2: the Sync is not done", d.Crash([]int{3}), "torn", "")
}

func TestDeadDisk(t *testing.T) {
	d := sector.New(3)
	write(t, d, 1, "a")
	d.Arm(0)
	d.Write(2, []byte("b"))
	check := func(what string) {
		t.Helper()
		is(t, what, d, 2, true)
		holds(t, what, d, "", "a", "b")
		holds(t, what, d.Crash([]int{1, 1}), "", "a", "b")
		holds(t, what, d.Crash(nil), "", "", "")
	}
	check("P14.3: a dead disk")
	for _, n := range append([]int{0, 1, 2}, places...) {
		for _, b := range [][]byte{nil, []byte("x"), make([]byte, api.Payload+1)} {
			if e := d.Write(n, b); e != api.ErrSectorDead {
				t.Errorf("P14.2: Write(%d, %d bytes) on a dead disk: %d", n, len(b), e)
			}
		}
	}
	if e := d.Sync(); e != api.ErrSectorDead {
		t.Errorf("P14.2: Sync on a dead disk: %d", e)
	}
	check("P14.2: nothing is written on a dead disk")
	for _, n := range places {
		if b, e := d.Read(n); e != api.ErrSectorRange || len(b) != 0 {
			t.Errorf("P14.3: Read(%d) on a dead disk: %q, %d", n, b, e)
		}
	}
	for _, at := range []int{0, 1, 5, math.MaxInt, -1, math.MinInt} {
		d.Arm(at)
		if e := d.Sync(); e != api.ErrSectorDead {
			t.Errorf("P14.3: Sync on a disk that is dead, and armed by %d: %d", at, e)
		}
		check("P14.3: a dead disk isn't armed")
		is(t, "P14.3", d.Clone(), 2, true)
	}
}

// lives does steps, Writes and Syncs in turn, until the disk dies, and tells how many were done before.
func lives(d *sector.Disk, most int) int {
	for i := range most {
		e := d.Sync
		if i%2 == 0 {
			e = func() api.Errno { return d.Write(0, nil) }
		}
		if e() != api.OK {
			return i
		}
	}
	return most
}

func TestArm(t *testing.T) {
	for at := range 20 {
		for done := range 4 {
			d := sector.New(1)
			lives(d, done)
			d.Arm(at)
			is(t, "P14.3: Arm is no step", d, done, false)
			if got := lives(d, 50); got != at {
				t.Errorf("P14.3: Arm(%d) behind %d steps: dead after %d", at, done, got)
			}
			is(t, "P14.3: the step at which it dies is one", d, done+at+1, true)
			if lives(d, 1) != 0 {
				t.Errorf("P14.2: Arm(%d): steps on a dead disk", at)
			}
			is(t, "P14.3: what a dead disk is asked to do is no step", d, done+at+1, true)
		}
	}
}

func TestArmAgain(t *testing.T) {
	for _, first := range []int{-1, 0, 1, 2, 3, 10, math.MaxInt} {
		for _, second := range []int{-1, -2, math.MinInt, 0, 1, 2, 5, 49, 50, 1 << 32, math.MaxInt - 1, math.MaxInt} {
			for between := range 4 {
				d := sector.New(1)
				d.Arm(first)
				if lives(d, between) < between {
					continue
				}
				d.Arm(second)
				want := 50
				if 0 <= second && second < 50 {
					want = second
				}
				if got := lives(d, 50); got != want {
					t.Errorf("P14.3: Arm(%d), %d steps, Arm(%d): dead after %d, want %d", first, between, second, got, want)
				}
				if d.Dead() != (want < 50) {
					t.Errorf("P14.3: Arm(%d), %d steps, Arm(%d): dead: %v", first, between, second, d.Dead())
				}
			}
		}
	}
}

// Only steps bring an armed disk nearer to its death.
func TestWhatIsNoStep(t *testing.T) {
	d := sector.New(1)
	d.Arm(2)
	none := func(steps int) {
		t.Helper()
		for range 5 {
			d.Read(0)
			d.Read(1)
			d.Write(1, nil)
			d.Write(-1, nil)
			d.Write(0, make([]byte, api.Payload+1))
			d.Many()
			d.Steps()
			d.Dead()
			lives(d.Crash(nil), 5)
			lives(d.Clone(), 5)
		}
		is(t, "P14.3", d, steps, false)
	}
	none(0)
	write(t, d, 0, "a")
	none(1)
	sync(t, d)
	none(2)
	if e := d.Write(0, make([]byte, api.Payload+1)); e != api.ErrSectorRange {
		t.Errorf("P14.2: what is too long, at the step at which the disk dies: %d", e)
	}
	if e := d.Write(0, nil); e != api.ErrSectorDead {
		t.Errorf("P14.3: the third step of Arm(2): %d", e)
	}
}

func TestMemoryIsApart(t *testing.T) {
	d := sector.New(2)
	b := []byte("abc")
	d.Write(0, b)
	if string(b) != "abc" {
		t.Errorf("R5: Write changed its bytes: %q", b)
	}
	b[0] = 'x'
	holds(t, "R6: what was written in is kept", d, "abc", "")
	for range 2 {
		for n, want := range []string{"abc", ""} {
			got, _ := d.Read(n)
			got = got[:cap(got)]
			for i := range got {
				got[i] = 'y'
			}
			if got, _ := d.Read(n); !bytes.Equal(got, padded(want)) {
				t.Errorf("R6: writing into what Read answered changed sector %d: %q", n, got)
			}
		}
		holds(t, "R6", d.Crash([]int{1}), "abc", "")
		sync(t, d)
	}
	write(t, d, 1, "d")
	picks := []int{-1, 5, 1}
	before := slices.Clone(picks)
	c := d.Crash(picks[:2])
	if !slices.Equal(picks, before) {
		t.Errorf("R5: Crash changed its picks: %v", picks)
	}
	picks[0] = 1
	holds(t, "R6", c, "abc", "")
}
