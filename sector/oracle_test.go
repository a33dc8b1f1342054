package sector_test

import (
	"bytes"
	"encoding/binary"
	"math"
	"math/rand"
	"strings"
	"testing"

	"chatelaine/api"
	"chatelaine/sector"
)

// plainDisk is the chapter's words, one after the other, however long that takes.
type plainDisk struct {
	versions [][][]byte // of each sector: the durable one, and those behind it
	steps    int
	dies     int // the step at which it dies, counted from 0; -1: none
	dead     bool
}

func newPlain(many int) *plainDisk {
	d := &plainDisk{dies: -1}
	for range many {
		d.versions = append(d.versions, [][]byte{make([]byte, 256)})
	}
	return d
}

func (d *plainDisk) nextMark() uint64 {
	most := uint64(0)
	for _, l := range d.versions {
		for _, v := range l {
			most = max(most, binary.LittleEndian.Uint64(v), binary.LittleEndian.Uint64(v[248:]))
		}
	}
	return most + 1
}

// step tells whether the disk dies at this one.
func (d *plainDisk) step() bool {
	d.dead = d.steps == d.dies
	d.steps++
	return d.dead
}

func (d *plainDisk) write(n int, b []byte) api.Errno {
	if d.dead {
		return api.ErrSectorDead
	}
	if n < 0 || n >= len(d.versions) || len(b) > 240 {
		return api.ErrSectorRange
	}
	mark := binary.LittleEndian.AppendUint64(nil, d.nextMark())
	v := append(bytes.Clone(mark), b...)
	v = append(v, make([]byte, 240-len(b))...)
	d.versions[n] = append(d.versions[n], append(v, mark...))
	if d.step() {
		return api.ErrSectorDead
	}
	return api.OK
}

func (d *plainDisk) sync() api.Errno {
	if d.dead || d.step() {
		return api.ErrSectorDead
	}
	for n, l := range d.versions {
		d.versions[n] = [][]byte{l[len(l)-1]}
	}
	return api.OK
}

func (d *plainDisk) read(n int) ([]byte, api.Errno) {
	if n < 0 || n >= len(d.versions) {
		return nil, api.ErrSectorRange
	}
	v := d.versions[n][len(d.versions[n])-1]
	if !bytes.Equal(v[:8], v[248:]) {
		return nil, api.ErrSectorTorn
	}
	return v[8:248], api.OK
}

func (d *plainDisk) arm(at int) {
	d.dies = -1
	if at >= 0 && at < 1<<30 {
		d.dies = d.steps + at
	}
}

func (d *plainDisk) crash(picks []int) *plainDisk {
	c := newPlain(len(d.versions))
	for n, l := range d.versions {
		v := bytes.Clone(l[0])
		if k := len(l) - 1; k > 0 {
			p := 0
			if len(picks) > 0 {
				p = max(0, picks[0])
				picks = picks[1:]
			}
			j, at := p%(k+1), 8*(p/(k+1)%32)
			if j > 0 && at == 0 {
				v = bytes.Clone(l[j])
			} else if j > 0 {
				v = append(bytes.Clone(l[j][:at]), l[j-1][at:]...)
			}
		}
		c.versions[n][0] = v
	}
	return c
}

func (d *plainDisk) clone() *plainDisk {
	c := *d
	c.versions = nil
	for _, l := range d.versions {
		c.versions = append(c.versions, append([][]byte(nil), l...))
	}
	return &c
}

// pair is a disk, and what it should be.
type pair struct {
	got  *sector.Disk
	want *plainDisk
}

func (p pair) same(t *testing.T, what string) {
	t.Helper()
	if p.got.Many() != len(p.want.versions) || p.got.Steps() != p.want.steps || p.got.Dead() != p.want.dead {
		t.Fatalf("%s: %d sectors, %d steps, dead: %v, want %d, %d, %v", what, p.got.Many(), p.got.Steps(), p.got.Dead(), len(p.want.versions), p.want.steps, p.want.dead)
	}
	for n := -1; n <= p.got.Many(); n++ {
		a, e := p.got.Read(n)
		b, f := p.want.read(n)
		if e != f || !bytes.Equal(a, b) {
			t.Fatalf("%s: Read(%d): %q, %d, want %q, %d", what, n, a, e, b, f)
		}
	}
}

func drawPicks(r *rand.Rand) []int {
	var l []int
	for range r.Intn(8) {
		switch r.Intn(8) {
		case 0:
			l = append(l, r.Int()-math.MaxInt/2)
		case 1, 2:
			l = append(l, r.Intn(300)-20)
		default:
			l = append(l, r.Intn(6))
		}
	}
	return l
}

// play does a drawn call on both disks, and answers those to go on with.
func (p pair) play(t *testing.T, r *rand.Rand) (pair, string) {
	many := len(p.want.versions)
	switch x := r.Intn(32); {
	case x < 18:
		n := r.Intn(many)
		if r.Intn(16) == 0 {
			n = r.Intn(many+4) - 2
		}
		b := []byte(strings.Repeat(string(rune('a'+r.Intn(26))), r.Intn(245)))
		if e, f := p.got.Write(n, b), p.want.write(n, b); e != f {
			t.Fatalf("P14.2: Write(%d, %d bytes): %d, want %d", n, len(b), e, f)
		}
		return p, "Write"
	case x < 22:
		if e, f := p.got.Sync(), p.want.sync(); e != f {
			t.Fatalf("P14.2: Sync: %d, want %d", e, f)
		}
		return p, "Sync"
	case x < 24:
		at := r.Intn(20) - 3
		if r.Intn(8) == 0 {
			at = math.MaxInt - r.Intn(30)
		}
		p.got.Arm(at)
		p.want.arm(at)
		return p, "Arm"
	case x < 26:
		c := pair{p.got.Clone(), p.want.clone()}
		if r.Intn(2) == 0 {
			return c, "Clone"
		}
		for range 5 {
			c, _ = c.play(t, r)
		}
		c.same(t, "P14.4: a clone")
		return p, "Clone, and back"
	default:
		picks := drawPicks(r)
		c := pair{p.got.Crash(picks), p.want.crash(picks)}
		if p.want.dead && r.Intn(2) == 0 || r.Intn(8) == 0 {
			return c, "Crash"
		}
		c.same(t, "P14.4: what would be found")
		return p, "Crash, and back"
	}
}

func TestDrawnCalls(t *testing.T) {
	r := rand.New(rand.NewSource(14))
	torn, dead := 0, 0
	for range 400 {
		many := 1 + r.Intn(6)
		p := pair{sector.New(many), newPlain(many)}
		for range 100 {
			var what string
			p, what = p.play(t, r)
			p.same(t, "after "+what)
			if p.want.dead {
				dead++
			}
			if _, e := p.want.read(0); e == api.ErrSectorTorn {
				torn++
			}
		}
	}
	if torn < 500 || dead < 500 {
		t.Errorf("some states are rare: %d torn, %d dead", torn, dead)
	}
}

// R7: The same calls have the same results.
func TestSameCallsAgain(t *testing.T) {
	for seed := range int64(20) {
		var all [2]pair
		for i := range all {
			r := rand.New(rand.NewSource(seed))
			all[i] = pair{sector.New(4), newPlain(4)}
			for range 50 {
				all[i], _ = all[i].play(t, r)
			}
		}
		pair{all[0].got, all[1].want}.same(t, "R7")
		pair{all[1].got, all[0].want}.same(t, "R7")
	}
}
