package sector_test

import (
	"math"
	"slices"
	"strconv"
	"testing"

	"chatelaine/api"
	"chatelaine/sector"
)

// letters are what is written to a sector, one after the other; the first is durable.
func letters(t *testing.T, k int) *sector.Disk {
	d := sector.New(1)
	write(t, d, 0, "0")
	sync(t, d)
	for i := range k {
		write(t, d, 0, strconv.Itoa(i+1))
	}
	return d
}

func TestCrashOfKnownPicks(t *testing.T) {
	for k, all := range []map[int]string{
		{0: "0", 1: "0", 7: "0", 31: "0", 32: "0", -1: "0", math.MaxInt: "0", math.MinInt: "0"},
		{0: "0", 1: "1", 2: "0", 3: "torn", 4: "0", 5: "torn", 61: "torn", 62: "0", 63: "torn", 64: "0", 65: "1", 66: "0", 67: "torn", -1: "0", -2: "0", -3: "0", math.MinInt: "0", math.MaxInt: "torn", math.MaxInt - 1: "0", 1 << 32: "0", 1<<32 + 1: "1", 1<<32 + 3: "torn"},
		{0: "0", 1: "1", 2: "2", 3: "0", 4: "torn", 5: "torn", 6: "0", 93: "0", 94: "torn", 95: "torn", 96: "0", 97: "1", 98: "2", 99: "0", 100: "torn", -1: "0", -2: "0", -4: "0"},
		{0: "0", 1: "1", 2: "2", 3: "3", 4: "0", 5: "torn", 6: "torn", 7: "torn", 8: "0", 127: "torn", 128: "0", 129: "1", 130: "2", 131: "3", 132: "0", 133: "torn", -1: "0", -3: "0"},
	} {
		d := letters(t, k)
		for p, want := range all {
			holds(t, "P14.4: "+strconv.Itoa(k)+" further versions, and the pick "+strconv.Itoa(p), d.Crash([]int{p}), want)
		}
	}
}

func TestCrashOfEveryPick(t *testing.T) {
	for k := range 9 {
		d := letters(t, k)
		p := 0
		for range 2 {
			for c := range 32 {
				for j := range k + 1 {
					want := strconv.Itoa(j)
					if j > 0 && c > 0 {
						want = "torn"
					}
					holds(t, "P14.4: "+strconv.Itoa(k)+" further versions, and the pick "+strconv.Itoa(p), d.Crash([]int{p}), want)
					p++
				}
			}
		}
	}
}

// The sectors with more than one version take picks, from the first to the last one, in whatever order they were written.
func TestPicksInTheirOrder(t *testing.T) {
	for _, order := range [][]int{{1, 3, 4}, {4, 3, 1}, {3, 4, 1, 4, 3, 1}, {4, 4, 1, 3, 3, 1}} {
		d := sector.New(6)
		for n := range 6 {
			write(t, d, n, "old")
		}
		sync(t, d)
		for _, n := range order {
			write(t, d, n, "new")
		}
		last := len(order) / 3 // the pick of the last version
		tear := 2*last + 1     // a pick of a torn one
		for _, c := range []struct {
			picks []int
			want  [3]string // of the sectors 1, 3 and 4
		}{
			{nil, [3]string{"old", "old", "old"}},
			{[]int{last}, [3]string{"new", "old", "old"}},
			{[]int{0, last}, [3]string{"old", "new", "old"}},
			{[]int{0, 0, last}, [3]string{"old", "old", "new"}},
			{[]int{0, 0, 0, last}, [3]string{"old", "old", "old"}},
			{[]int{-1, last}, [3]string{"old", "new", "old"}},
			{[]int{math.MinInt, -5, last}, [3]string{"old", "old", "new"}},
			{[]int{last, tear}, [3]string{"new", "torn", "old"}},
			{[]int{tear, 0, last, tear, tear, tear}, [3]string{"torn", "old", "new"}},
			{[]int{last, last, last, tear}, [3]string{"new", "new", "new"}},
			{[]int{tear, tear, tear}, [3]string{"torn", "torn", "torn"}},
		} {
			holds(t, "P14.4: picks "+strconv.Itoa(len(c.picks)), d.Crash(c.picks), "old", c.want[0], "old", c.want[1], c.want[2], "old")
		}
	}
}

// A sector that is written as it was has one more version all the same.
func TestTheSameBytesAgain(t *testing.T) {
	d := sector.New(2)
	write(t, d, 0, "a")
	sync(t, d)
	write(t, d, 0, "a")
	write(t, d, 1, "b")
	holds(t, "P14.4", d.Crash([]int{1}), "a", "")
	holds(t, "P14.4", d.Crash([]int{0, 1}), "a", "b")
	holds(t, "P14.4", d.Crash([]int{3}), "torn", "")
	zeros := sector.New(1)
	write(t, zeros, 0, "")
	holds(t, "P14.4", zeros.Crash([]int{3}), "torn")
}

func TestWhatIsFoundIsNew(t *testing.T) {
	d := sector.New(3)
	write(t, d, 0, "a")
	write(t, d, 1, "b")
	for _, armed := range []int{-1, 0, 5} {
		d := d.Clone()
		d.Arm(armed)
		if armed == 0 {
			d.Sync()
		}
		c := d.Crash([]int{1, 3})
		is(t, "P14.4: what is found is not dead, and has no steps", c, 0, false)
		holds(t, "P14.4", c, "a", "torn", "")
		for p := range 100 {
			holds(t, "P14.4: what is found is durable", c.Crash([]int{p, p, p}), "a", "torn", "")
		}
		if lives(c, 20) != 20 {
			t.Error("P14.4: what is found is armed")
		}
		is(t, "P14.4", c, 20, false)
	}
}

func TestCrashLeavesTheDiskAsItIs(t *testing.T) {
	d := letters(t, 2)
	d.Arm(3)
	for p := range 200 {
		c := d.Crash([]int{p})
		write(t, c, 0, "x")
		sync(t, c)
		c.Arm(0)
		c.Sync()
		holds(t, "P14.4: the first disk", d, "2")
		is(t, "P14.4: the first disk", d, 4, false)
	}
	c := d.Crash([]int{1})
	write(t, d, 0, "y")
	sync(t, d)
	holds(t, "P14.4: what was found", c, "1")
	holds(t, "P14.4: the first disk", d.Crash([]int{1}), "y")
	if got := lives(d, 9); got != 1 {
		t.Errorf("P14.4: the first disk is armed: dead after %d", got)
	}
	is(t, "P14.4: what was found", c, 0, false)
}

func TestTornSector(t *testing.T) {
	d := letters(t, 1).Crash([]int{3})
	holds(t, "P14.3", d, "torn")
	sync(t, d)
	holds(t, "P14.2: a Sync leaves it torn", d, "torn")
	write(t, d, 0, "x")
	holds(t, "P14.2: what is written on it is whole", d, "x")
	holds(t, "P14.4: the torn one is durable", d.Crash(nil), "torn")
	holds(t, "P14.4", d.Crash([]int{1}), "x")
	for p := 3; p < 64; p += 2 {
		holds(t, "P14.5: torn twice", d.Crash([]int{p}), "torn")
	}
	write(t, d, 0, "y")
	holds(t, "P14.4", d.Crash([]int{2}), "y")
	sync(t, d)
	holds(t, "P14.5", d.Crash([]int{3}), "y")
	d.Arm(0)
	d.Write(0, []byte("z"))
	holds(t, "P14.3: a torn one on a dead disk", d.Crash([]int{3}).Clone(), "torn")
	armed := letters(t, 1).Crash([]int{3})
	armed.Arm(0)
	armed.Sync()
	holds(t, "P14.3: a torn one on a dead disk", armed, "torn")
}

// Marks tell versions apart, whatever was lost or torn before, so that no mixture of two ever looks whole.
func TestTornAfterManyCrashes(t *testing.T) {
	for _, picks := range [][]int{nil, {0, 1}, {1, 0}, {0, 3}, {3, 0}, {3, 1}, {1, 3}, {1, 1}, {3, 3}} {
		d := sector.New(2)
		for i := range 40 {
			for range i % 3 {
				write(t, d, i%2, "more")
				sync(t, d)
			}
			write(t, d, 0, "a")
			write(t, d, 1, "b")
			holds(t, "P14.5: what is found whole", d.Crash([]int{1, 1}), "a", "b")
			holds(t, "P14.5: what is found torn", d.Crash([]int{3, 3}), "torn", "torn")
			d = d.Crash(picks)
		}
	}
}

func TestClone(t *testing.T) {
	d := letters(t, 2)
	d.Arm(2)
	c := d.Clone()
	is(t, "P14.4: a clone", c, 4, false)
	for p := range 200 {
		want, e := d.Crash([]int{p}).Read(0)
		if got, f := c.Crash([]int{p}).Read(0); e != f || !slices.Equal(got, want) {
			t.Errorf("P14.4: a clone, and the pick %d: %q, %d, want %q, %d", p, got, f, want, e)
		}
	}
	write(t, d, 0, "x")
	holds(t, "P14.4: a clone", c, "2")
	holds(t, "P14.4: a clone has no more versions", c.Crash([]int{3}), "0")
	write(t, c, 0, "y")
	holds(t, "P14.4: the first disk", d, "x")
	holds(t, "P14.4: the first disk", d.Crash([]int{3}), "x")
	holds(t, "P14.4: a clone", c.Crash([]int{3}), "y")
	sync(t, c)
	holds(t, "P14.4: the first disk isn't synced", d.Crash(nil), "0")
	if e := c.Sync(); e != api.ErrSectorDead {
		t.Errorf("P14.4: a clone is armed as its disk was: %d", e)
	}
	is(t, "P14.4: a clone", c, 7, true)
	is(t, "P14.4: the first disk", d, 5, false)
	is(t, "P14.4: a clone of a dead disk", c.Clone(), 7, true)
	holds(t, "P14.4: a clone of a dead disk", c.Clone(), "y")
	if got := lives(d, 9); got != 1 {
		t.Errorf("P14.4: the first disk is armed: dead after %d", got)
	}
	holds(t, "P14.4: a clone", c, "y")
	if sector.New(0).Clone().Many() != 0 || sector.New(7).Clone().Many() != 7 {
		t.Error("P14.4: Many of a clone")
	}
}

// A clone and its disk may both be written on, at once and behind the same versions.
func TestClonesOfOneDisk(t *testing.T) {
	for k := range 9 {
		d := letters(t, k)
		a, b := d.Clone(), d.Clone()
		for i, one := range []*sector.Disk{a, d, b} {
			write(t, one, 0, "w"+strconv.Itoa(i))
		}
		for i, one := range []*sector.Disk{a, d, b} {
			holds(t, "P14.4", one, "w"+strconv.Itoa(i))
			holds(t, "P14.4", one.Crash([]int{k + 1}), "w"+strconv.Itoa(i))
			holds(t, "P14.4", one.Crash([]int{k}), strconv.Itoa(k))
		}
	}
}

// What was synced, and not written since, is found; of the others one version, or a torn one.
func TestWhatACrashLeaves(t *testing.T) {
	d := sector.New(4)
	for n := range 4 {
		write(t, d, n, "lost")
		write(t, d, n, "old")
	}
	sync(t, d)
	write(t, d, 1, "a")
	write(t, d, 2, "a")
	write(t, d, 2, "b")
	kinds := map[string]int{}
	for p := range 96 {
		for q := range 96 {
			c := d.Crash([]int{p, q})
			for n, may := range [][]string{{"old"}, {"old", "a", ""}, {"old", "a", "b", ""}, {"old"}} {
				b, e := c.Read(n)
				s := ""
				if e == api.OK {
					s = string(b[:slices.Index(b, 0)])
				}
				if e != api.OK && e != api.ErrSectorTorn || !slices.Contains(may, s) {
					t.Fatalf("P14.5: picks %d and %d: sector %d: %q, %d", p, q, n, s, e)
				}
				kinds[strconv.Itoa(n)+s]++
			}
		}
	}
	if len(kinds) != 9 {
		t.Errorf("P14.5: not all that may be found is found: %v", kinds)
	}
}
