package disk_test

import (
	"math"
	"math/rand"
	"slices"
	"testing"

	"floodgate/api"
	"floodgate/disk"
)

// put is a write of a sector.
type put struct {
	at int
	s  api.Sector
}

// model is a Disk by its words.
type model struct {
	stable        []api.Sector
	pending       []put
	down, counted bool
	left          int
}

func modelOf(sectors int) *model { return &model{stable: make([]api.Sector, sectors)} }

func (m *model) has(i int) bool { return 0 <= i && i < len(m.stable) }

// read is what a sector is once all PENDING writes up to the last one are done, one over the other.
func (m *model) read(i int) api.Sector {
	s := m.stable[i]
	for _, p := range m.pending {
		if p.at == i {
			s = p.s
		}
	}
	return s
}

// power is what Write and Sync have in common, from ErrPower on.
func (m *model) power() api.Errno {
	switch {
	case m.down:
		return api.ErrPower
	case m.counted && m.left == 0:
		m.down = true
		return api.ErrPower
	case m.counted:
		m.left--
	}
	return api.OK
}

func (m *model) write(i int, s api.Sector) api.Errno {
	if !m.has(i) {
		return api.ErrSector
	}
	e := m.power()
	if e == api.OK {
		m.pending = append(m.pending, put{i, s})
	}
	return e
}

func (m *model) sync() api.Errno {
	e := m.power()
	if e == api.OK {
		for i := range m.stable {
			m.stable[i] = m.read(i)
		}
		m.pending = nil
	}
	return e
}

func (m *model) breaks(n int) {
	m.counted, m.left = n >= 0, n
}

func (m *model) crash(keep []bool) {
	var kept []put
	for i := range min(len(keep), len(m.pending)) {
		if keep[i] {
			kept = append(kept, m.pending[i])
		}
	}
	m.pending, m.down, m.counted = kept, false, false
	m.sync()
}

// pair is a disk and the model it is held against.
type pair struct {
	t *testing.T
	d *disk.Disk
	m *model
}

func pairOf(t *testing.T, sectors int) *pair {
	t.Helper()
	p := &pair{t, disk.New(sectors), modelOf(sectors)}
	p.holdAll()
	return p
}

func (p *pair) write(i int, s api.Sector) {
	p.t.Helper()
	holdErr(p.t, "Write", p.d.Write(i, s), p.m.write(i, s))
}

func (p *pair) sync() {
	p.t.Helper()
	holdErr(p.t, "Sync", p.d.Sync(), p.m.sync())
}

func (p *pair) breaks(n int) {
	p.d.Break(n)
	p.m.breaks(n)
}

func (p *pair) crash(keep ...bool) {
	p.d.Crash(keep)
	p.m.crash(keep)
}

// holdAll holds all that a disk tells against its model, twice: telling changes nothing.
func (p *pair) holdAll() {
	p.t.Helper()
	for range 2 {
		if p.d.Len() != len(p.m.stable) {
			p.t.Fatalf("Len = %d, not %d", p.d.Len(), len(p.m.stable))
		}
		if p.d.Down() != p.m.down {
			p.t.Fatalf("Down = %t", p.d.Down())
		}
		holdPending(p.t, p.d, p.m.places()...)
		for i := range p.m.stable {
			holdRead(p.t, p.d, i, p.m.read(i))
			holdStable(p.t, p.d, i, p.m.stable[i])
		}
	}
}

func (m *model) places() []int {
	var out []int
	for _, p := range m.pending {
		out = append(out, p.at)
	}
	return out
}

func holdErr(t *testing.T, what string, e, want api.Errno) {
	t.Helper()
	if e != want {
		t.Fatalf("%s = %d, not %d", what, e, want)
	}
}

func holdRead(t *testing.T, d *disk.Disk, i int, want api.Sector) {
	t.Helper()
	if s, e := d.Read(i); s != want || e != api.OK {
		t.Fatalf("Read(%d) = %v, %d, not %v", i, s, e, want)
	}
}

func holdStable(t *testing.T, d *disk.Disk, i int, want api.Sector) {
	t.Helper()
	if s, e := d.Stable(i); s != want || e != api.OK {
		t.Fatalf("Stable(%d) = %v, %d, not %v", i, s, e, want)
	}
}

func holdPending(t *testing.T, d *disk.Disk, want ...int) {
	t.Helper()
	if l := d.Pending(); !slices.Equal(l, want) {
		t.Fatalf("Pending = %v, not %v", l, want)
	}
}

func holdDown(t *testing.T, d *disk.Disk, want bool) {
	t.Helper()
	if d.Down() != want {
		t.Fatalf("Down = %t", d.Down())
	}
}

// filled is a sector whose bytes are all different from those of another number's, up to its last one.
func filled(n byte) api.Sector {
	var s api.Sector
	for i := range s {
		s[i] = n + byte(i)*3
	}
	return s
}

// outside are numbers of sectors that a disk of so many hasn't.
func outside(sectors int) []int {
	return []int{math.MinInt, math.MinInt + 1, math.MinInt32, -513, -512, -2, -1, sectors, sectors + 1, sectors + 512, 1 << 16, math.MaxInt32, 1 << 32, math.MaxInt - 1, math.MaxInt}
}

// lengths are the lengths of disks, from the least to the greatest.
func lengths() []int { return []int{0, 1, 2, 4, 64, 511, 512} }

// P7.3: the chapter's own example.
func TestExample(t *testing.T) {
	d := disk.New(4)
	holdErr(t, "Write", d.Write(2, filled(1)), api.OK)
	holdErr(t, "Write", d.Write(2, filled(2)), api.OK)
	d.Crash([]bool{true, false})
	holdRead(t, d, 2, filled(1))
	holdStable(t, d, 2, filled(1))
}

// P7.1
func TestNewOfLengths(t *testing.T) {
	for sectors, want := range map[int]int{
		math.MinInt: 0, math.MinInt32: 0, -513: 0, -512: 0, -1: 0, 0: 0,
		1: 1, 2: 2, 63: 63, 64: 64, 511: 511, 512: 512,
		513: 512, 1024: 512, 1 << 16: 512, math.MaxInt32: 512, 1 << 32: 512, 1<<32 + 1: 512, math.MaxInt: 512,
	} {
		p := &pair{t, disk.New(sectors), modelOf(want)}
		p.holdAll()
		for _, i := range []int{0, want - 1} {
			p.write(i, filled(9))
		}
		p.sync()
		p.holdAll()
	}
}

// P7.1: a new disk has zeros, nothing PENDING, isn't DOWN, and nothing counts.
func TestNew(t *testing.T) {
	for _, sectors := range lengths() {
		d := disk.New(sectors)
		holdPending(t, d)
		holdDown(t, d, false)
		for i := range sectors {
			holdRead(t, d, i, api.Sector{})
			holdStable(t, d, i, api.Sector{})
		}
		for range 2000 {
			holdErr(t, "Sync", d.Sync(), api.OK)
		}
		holdDown(t, d, false)
	}
}

// P7.1, P7.2
func TestSectorsThatThereAreNot(t *testing.T) {
	for _, sectors := range lengths() {
		p := pairOf(t, sectors)
		holdOutside(p)
		for i := range min(sectors, 3) {
			p.write(i, filled(byte(i)))
		}
		p.holdAll()
		holdOutside(p)
		p.sync()
		holdOutside(p)
		p.write(0, filled(7))
		p.breaks(0)
		p.sync()
		// DOWN, too.
		holdOutside(p)
		p.crash()
		holdOutside(p)
	}
}

// holdOutside asks for sectors that there aren't: ErrSector and zeros, and nothing is another than before.
func holdOutside(p *pair) {
	p.t.Helper()
	for _, i := range outside(p.d.Len()) {
		s, e := p.d.Read(i)
		if s != (api.Sector{}) || e != api.ErrSector {
			p.t.Fatalf("Read(%d) of %d = %v, %d", i, p.d.Len(), s, e)
		}
		s, e = p.d.Stable(i)
		if s != (api.Sector{}) || e != api.ErrSector {
			p.t.Fatalf("Stable(%d) of %d = %v, %d", i, p.d.Len(), s, e)
		}
		holdErr(p.t, "Write", p.d.Write(i, filled(200)), api.ErrSector)
	}
	p.holdAll()
}

// P7.1, P7.2
func TestFirstAndLastSector(t *testing.T) {
	for _, sectors := range []int{1, 2, 4, 64, 511, 512} {
		p := pairOf(t, sectors)
		p.write(0, filled(1))
		p.holdAll()
		p.write(sectors-1, filled(2))
		p.holdAll()
		holdRead(t, p.d, sectors-1, filled(2))
		p.sync()
		p.holdAll()
		holdStable(t, p.d, sectors-1, filled(2))
	}
}

// P7.1, P7.2: each sector is one of its own.
func TestAllSectors(t *testing.T) {
	for _, sectors := range []int{1, 64, 512} {
		p := pairOf(t, sectors)
		for i := range sectors {
			s := filled(byte(i))
			s[63] = byte(i >> 8)
			p.write(i, s)
		}
		p.holdAll()
		p.sync()
		p.holdAll()
	}
}

// P7.1
func TestRead(t *testing.T) {
	d := disk.New(4)
	holdRead(t, d, 1, api.Sector{})
	d.Write(1, filled(1))
	holdRead(t, d, 1, filled(1))
	d.Write(0, filled(2))
	d.Write(1, filled(3))
	d.Write(3, filled(4))
	holdRead(t, d, 1, filled(3))
	holdRead(t, d, 0, filled(2))
	holdRead(t, d, 2, api.Sector{})
	holdRead(t, d, 3, filled(4))
	// A write of zeros is one, too.
	d.Write(1, api.Sector{})
	d.Write(2, filled(5))
	holdRead(t, d, 1, api.Sector{})
	d.Sync()
	holdRead(t, d, 1, api.Sector{})
	holdRead(t, d, 2, filled(5))
	d.Write(2, filled(6))
	holdRead(t, d, 2, filled(6))
	d.Break(0)
	holdRead(t, d, 2, filled(6))
	holdErr(t, "Write", d.Write(2, filled(7)), api.ErrPower)
	holdDown(t, d, true)
	holdRead(t, d, 2, filled(6))
	holdRead(t, d, 0, filled(2))
}

// P7.1, P7.2
func TestStable(t *testing.T) {
	d := disk.New(4)
	d.Write(1, filled(1))
	holdStable(t, d, 1, api.Sector{})
	d.Write(1, filled(2))
	d.Write(2, filled(3))
	holdStable(t, d, 1, api.Sector{})
	holdErr(t, "Sync", d.Sync(), api.OK)
	holdStable(t, d, 1, filled(2))
	holdStable(t, d, 2, filled(3))
	holdStable(t, d, 0, api.Sector{})
	d.Write(1, filled(4))
	d.Write(0, filled(5))
	holdStable(t, d, 1, filled(2))
	holdStable(t, d, 0, api.Sector{})
	d.Break(0)
	holdErr(t, "Sync", d.Sync(), api.ErrPower)
	holdStable(t, d, 1, filled(2))
	holdStable(t, d, 0, api.Sector{})
	holdRead(t, d, 0, filled(5))
}

// P7.1, P7.2
func TestPending(t *testing.T) {
	d := disk.New(512)
	holdPending(t, d)
	d.Write(3, filled(1))
	holdPending(t, d, 3)
	d.Write(0, filled(2))
	d.Write(511, filled(3))
	d.Write(3, filled(4))
	d.Write(3, filled(4))
	d.Write(2, filled(5))
	// What changes nothing of a sector is a write, too.
	d.Write(7, api.Sector{})
	holdPending(t, d, 3, 0, 511, 3, 3, 2, 7)
	d.Write(512, filled(6))
	d.Write(-1, filled(6))
	holdPending(t, d, 3, 0, 511, 3, 3, 2, 7)
	d.Sync()
	holdPending(t, d)
	d.Write(5, filled(7))
	holdPending(t, d, 5)
	d.Break(0)
	d.Sync()
	holdPending(t, d, 5)
	d.Crash(nil)
	holdPending(t, d)
}

// P7.2: many more writes than there are sectors.
func TestManyPending(t *testing.T) {
	p := pairOf(t, 3)
	for n := range 3000 {
		p.write(n*n%3, filled(byte(n)))
	}
	p.holdAll()
	p.sync()
	p.holdAll()
}

// P7.2: the later of two writes of a sector is that which is STABLE.
func TestSyncInOrder(t *testing.T) {
	d := disk.New(2)
	for n := range byte(5) {
		d.Write(0, filled(n))
		d.Write(1, filled(100-n))
	}
	holdErr(t, "Sync", d.Sync(), api.OK)
	holdStable(t, d, 0, filled(4))
	holdStable(t, d, 1, filled(96))
	holdRead(t, d, 0, filled(4))
	// Nothing of it comes again.
	d.Write(0, filled(50))
	holdErr(t, "Sync", d.Sync(), api.OK)
	holdErr(t, "Sync", d.Sync(), api.OK)
	holdStable(t, d, 0, filled(50))
	holdStable(t, d, 1, filled(96))
}

// P7.2, P7.3: of n acts, each is done, whichever it is; the one behind is not, and it is DOWN by that one alone.
func TestBreak(t *testing.T) {
	for _, n := range []int{0, 1, 2, 3, 7, 100} {
		for _, syncs := range []int{1, 2, 3, 1000} {
			p := pairOf(t, 4)
			p.write(1, filled(90))
			p.breaks(n)
			for i := range n {
				holdDown(t, p.d, false)
				if i%syncs == syncs-1 {
					holdErr(t, "Sync", p.d.Sync(), api.OK)
					p.m.sync()
				} else {
					holdErr(t, "Write", p.d.Write(i%4, filled(byte(i))), api.OK)
					p.m.write(i%4, filled(byte(i)))
				}
				p.holdAll()
			}
			holdDown(t, p.d, false)
			holdErr(t, "Write", p.d.Write(0, filled(99)), api.ErrPower)
			holdDown(t, p.d, true)
			p.m.down = true
			p.holdAll()
		}
	}
}

// P7.2, P7.3: as above, but the act behind is a Sync.
func TestBreakAtSync(t *testing.T) {
	for _, n := range []int{0, 1, 2, 5} {
		p := pairOf(t, 4)
		p.write(1, filled(90))
		p.breaks(n)
		for i := range n {
			holdErr(t, "Write", p.d.Write(i%4, filled(byte(i))), api.OK)
			p.m.write(i%4, filled(byte(i)))
		}
		holdDown(t, p.d, false)
		holdErr(t, "Sync", p.d.Sync(), api.ErrPower)
		holdDown(t, p.d, true)
		p.m.down = true
		p.holdAll()
	}
}

// P7.3
func TestBreakBelowNone(t *testing.T) {
	for _, n := range []int{-1, -2, -7, math.MinInt32, math.MinInt + 1, math.MinInt} {
		d := disk.New(2)
		for _, ahead := range []int{-1, 0, 1, 5} {
			d.Break(ahead)
			d.Break(n)
			for range 500 {
				holdErr(t, "Write", d.Write(1, filled(1)), api.OK)
				holdErr(t, "Sync", d.Sync(), api.OK)
			}
			holdDown(t, d, false)
		}
	}
}

// P7.3
func TestBreakOfTheGreatest(t *testing.T) {
	for _, n := range []int{math.MaxInt32, 1 << 32, math.MaxInt - 1, math.MaxInt} {
		p := pairOf(t, 2)
		p.breaks(n)
		for range 500 {
			p.write(1, filled(1))
			p.sync()
		}
		holdDown(t, p.d, false)
		p.holdAll()
	}
}

// P7.3: what is LEFT is told by the last Break alone.
func TestBreakAgain(t *testing.T) {
	for _, first := range []int{-1, 0, 1, 3, 10} {
		for _, done := range []int{0, 1, 2} {
			for _, second := range []int{0, 1, 3, 10} {
				d := disk.New(2)
				d.Break(first)
				for range done {
					if first < 0 || first >= done {
						holdErr(t, "Sync", d.Sync(), api.OK)
					}
				}
				d.Break(second)
				holdDown(t, d, false)
				for range second {
					holdErr(t, "Write", d.Write(0, filled(1)), api.OK)
				}
				holdErr(t, "Sync", d.Sync(), api.ErrPower)
				holdDown(t, d, true)
			}
		}
	}
}

// P7.3: Break itself changes neither what is written nor whether it is DOWN.
func TestBreakChangesNothingElse(t *testing.T) {
	p := pairOf(t, 3)
	p.write(0, filled(1))
	p.sync()
	p.write(0, filled(2))
	p.write(2, filled(3))
	for _, n := range []int{0, 1, -1, 5, 0, math.MaxInt, math.MinInt, 0} {
		p.breaks(n)
		p.holdAll()
		holdDown(t, p.d, false)
	}
}

// P7.2
func TestSyncOfNothingCounts(t *testing.T) {
	d := disk.New(2)
	d.Break(2)
	holdErr(t, "Sync", d.Sync(), api.OK)
	holdErr(t, "Sync", d.Sync(), api.OK)
	holdDown(t, d, false)
	holdErr(t, "Sync", d.Sync(), api.ErrPower)
	holdDown(t, d, true)
	// So it does on a disk without sectors.
	d = disk.New(0)
	d.Break(1)
	holdErr(t, "Sync", d.Sync(), api.OK)
	holdErr(t, "Sync", d.Sync(), api.ErrPower)
	holdDown(t, d, true)
}

// P7.2: ErrSector comes first, and is no act.
func TestWriteOfNoSectorIsNoAct(t *testing.T) {
	for _, sectors := range lengths() {
		for _, i := range outside(sectors) {
			d := disk.New(sectors)
			d.Break(1)
			holdErr(t, "Write", d.Write(i, filled(1)), api.ErrSector)
			holdErr(t, "Write", d.Write(i, filled(1)), api.ErrSector)
			holdErr(t, "Sync", d.Sync(), api.OK)
			// None is LEFT: it isn't DOWN by such a write.
			holdErr(t, "Write", d.Write(i, filled(1)), api.ErrSector)
			holdDown(t, d, false)
			holdErr(t, "Sync", d.Sync(), api.ErrPower)
			holdDown(t, d, true)
			holdErr(t, "Write", d.Write(i, filled(1)), api.ErrSector)
			holdDown(t, d, true)
		}
	}
}

// P7.2
func TestRefusedLeavesAll(t *testing.T) {
	p := pairOf(t, 3)
	p.write(0, filled(1))
	p.write(1, filled(2))
	p.sync()
	p.write(1, filled(3))
	p.write(2, filled(4))
	p.write(1, filled(5))
	p.breaks(0)
	for range 3 {
		holdErr(t, "Write", p.d.Write(0, filled(9)), api.ErrPower)
		holdErr(t, "Write", p.d.Write(1, filled(9)), api.ErrPower)
		holdErr(t, "Sync", p.d.Sync(), api.ErrPower)
		p.m.down = true
		p.holdAll()
	}
	holdPending(t, p.d, 1, 2, 1)
	// The writes are those numbered before: what was refused has no number.
	p.crash(true, false, false, true, true)
	p.holdAll()
	holdStable(t, p.d, 0, filled(1))
	holdStable(t, p.d, 1, filled(3))
	holdStable(t, p.d, 2, api.Sector{})
}

// P7.2, P7.3
func TestDownTillCrash(t *testing.T) {
	for _, n := range []int{math.MinInt, -1, 0, 1, 5, math.MaxInt} {
		p := pairOf(t, 2)
		p.write(1, filled(1))
		p.breaks(0)
		p.sync()
		holdDown(t, p.d, true)
		for range 3 {
			p.breaks(n)
			holdDown(t, p.d, true)
			holdErr(t, "Write", p.d.Write(0, filled(2)), api.ErrPower)
			holdErr(t, "Sync", p.d.Sync(), api.ErrPower)
			p.holdAll()
		}
		p.crash(true)
		holdDown(t, p.d, false)
		p.holdAll()
		for range 10 {
			holdErr(t, "Sync", p.d.Sync(), api.OK)
			holdErr(t, "Write", p.d.Write(0, filled(3)), api.OK)
		}
		holdDown(t, p.d, false)
	}
}

// P7.3: behind a Crash nothing counts, whatever was LEFT, DOWN or not.
func TestCrashEndsCounting(t *testing.T) {
	for _, n := range []int{-1, 0, 1, 3, math.MaxInt} {
		d := disk.New(2)
		d.Break(n)
		d.Crash(nil)
		holdDown(t, d, false)
		for range 10 {
			holdErr(t, "Write", d.Write(0, filled(3)), api.OK)
			holdErr(t, "Sync", d.Sync(), api.OK)
		}
		// Then it may be counted again.
		d.Break(1)
		holdErr(t, "Sync", d.Sync(), api.OK)
		holdErr(t, "Sync", d.Sync(), api.ErrPower)
	}
}

// bools is a list of so many, by the bits of a number.
func bools(n, bits int) []bool {
	var out []bool
	for i := range n {
		out = append(out, bits>>i&1 == 1)
	}
	return out
}

// P7.3: all lists of bools, shorter and longer than there are writes, of writes to one sector and to several.
func TestCrash(t *testing.T) {
	for _, places := range [][]int{{}, {1}, {1, 1}, {0, 2}, {1, 1, 1}, {1, 0, 1}, {2, 1, 0}, {1, 1, 1, 1}, {1, 2, 1, 2}, {0, 0, 2, 2, 0}} {
		for n := range len(places) + 3 {
			for bits := range 1 << n {
				for _, down := range []bool{false, true} {
					crashOf(t, places, bools(n, bits), down)
				}
			}
		}
	}
}

// crashOf crashes a disk on which there is something already, behind writes to these places.
func crashOf(t *testing.T, places []int, keep []bool, down bool) {
	t.Helper()
	p := pairOf(t, 3)
	for i := range 3 {
		p.write(i, filled(byte(100+i)))
	}
	p.sync()
	for n, i := range places {
		p.write(i, filled(byte(n)))
	}
	if down {
		p.breaks(0)
		p.sync()
		holdDown(t, p.d, true)
	}
	p.crash(keep...)
	holdPending(t, p.d)
	holdDown(t, p.d, false)
	p.holdAll()
	p.sync()
	p.holdAll()
	// The next writes are numbered from 0 on.
	p.write(0, filled(60))
	p.write(1, filled(61))
	p.crash(false, true)
	p.holdAll()
	holdStable(t, p.d, 1, filled(61))
}

// P7.3
func TestCrashByWords(t *testing.T) {
	for _, c := range []struct {
		keep        []bool
		zero, first api.Sector
	}{
		{nil, filled(50), api.Sector{}},
		{[]bool{}, filled(50), api.Sector{}},
		{[]bool{false, false, false, false}, filled(50), api.Sector{}},
		{[]bool{true}, filled(1), api.Sector{}},
		{[]bool{true, true}, filled(1), filled(2)},
		{[]bool{false, true}, filled(50), filled(2)},
		{[]bool{true, false, true}, filled(3), api.Sector{}},
		{[]bool{false, false, true, false}, filled(3), api.Sector{}},
		{[]bool{true, true, false, true}, filled(1), filled(4)},
		{[]bool{true, true, true, true}, filled(3), filled(4)},
		{[]bool{true, true, true, true, true, false, true}, filled(3), filled(4)},
		{[]bool{false, false, false, false, true, true}, filled(50), api.Sector{}},
	} {
		d := disk.New(2)
		d.Write(0, filled(50))
		d.Sync()
		for n, i := range []int{0, 1, 0, 1} {
			d.Write(i, filled(byte(n+1)))
		}
		d.Crash(c.keep)
		holdStable(t, d, 0, c.zero)
		holdRead(t, d, 0, c.zero)
		holdStable(t, d, 1, c.first)
		holdRead(t, d, 1, c.first)
		holdPending(t, d)
	}
}

// P7.3
func TestCrashWithNothingPending(t *testing.T) {
	for _, keep := range [][]bool{nil, {}, {true}, {false}, {true, true, true}} {
		p := pairOf(t, 2)
		p.crash(keep...)
		p.holdAll()
		p.write(1, filled(1))
		p.sync()
		p.crash(keep...)
		p.holdAll()
		p.crash(keep...)
		p.holdAll()
		holdStable(t, p.d, 1, filled(1))
	}
	disk.New(0).Crash([]bool{true})
}

// What is handed in isn't changed, spare room included.
func TestHandedInIsNotChanged(t *testing.T) {
	for bits := range 1 << 6 {
		d := disk.New(2)
		for n := range byte(5) {
			d.Write(int(n)%2, filled(n))
		}
		keep := bools(6, bits)
		d.Crash(keep[:3])
		if !slices.Equal(keep, bools(6, bits)) {
			t.Fatalf("keep is %v, not %v", keep, bools(6, bits))
		}
		// Spare room is no part of it: the fourth and the fifth write are lost.
		want := api.Sector{}
		if keep[1] {
			want = filled(1)
		}
		holdRead(t, d, 1, want)
	}
}

// What is handed in isn't kept.
func TestHandedInIsNotKept(t *testing.T) {
	d := disk.New(2)
	s := filled(1)
	d.Write(1, s)
	s[0], s[63] = 77, 77
	holdRead(t, d, 1, filled(1))
	d.Sync()
	s[1] = 78
	holdStable(t, d, 1, filled(1))
	d.Write(0, filled(2))
	d.Write(1, filled(3))
	keep := []bool{true, false}
	d.Crash(keep)
	keep[0], keep[1] = false, true
	holdRead(t, d, 0, filled(2))
	holdRead(t, d, 1, filled(1))
	d.Write(0, filled(4))
	d.Write(1, filled(5))
	d.Sync()
	holdStable(t, d, 0, filled(4))
	holdStable(t, d, 1, filled(5))
}

// spoil writes over a list, spare room included.
func spoil(l []int) {
	l = l[:cap(l)]
	for i := range l {
		l[i] = 1
	}
}

// What is handed out may be changed.
func TestHandedOutIsNew(t *testing.T) {
	p := pairOf(t, 4)
	for n, i := range []int{3, 0, 3, 2, 0} {
		p.write(i, filled(byte(n)))
		first, second := p.d.Pending(), p.d.Pending()
		spoil(first)
		if !slices.Equal(second, p.m.places()) {
			t.Fatalf("Pending = %v behind a change of another one", second)
		}
		p.holdAll()
		spoil(second)
		p.holdAll()
		s, _ := p.d.Read(i)
		s[5] ^= 255
		s, _ = p.d.Stable(i)
		s[5] ^= 255
		p.holdAll()
	}
	p.crash(true, false, true, true, false)
	p.holdAll()
}

// What is done to a disk isn't seen in what was handed out before.
func TestHandedOutStays(t *testing.T) {
	d := disk.New(4)
	d.Write(3, filled(1))
	d.Write(1, filled(2))
	l := d.Pending()
	s, _ := d.Read(3)
	d.Write(3, filled(3))
	d.Write(2, filled(3))
	d.Sync()
	d.Write(0, filled(4))
	d.Crash([]bool{true})
	if !slices.Equal(l, []int{3, 1}) || s != filled(1) {
		t.Errorf("Pending = %v, Read = %v behind changes of the disk", l, s)
	}
}

// No two disks have anything in common.
func TestTwoDisks(t *testing.T) {
	a, b := pairOf(t, 3), pairOf(t, 3)
	a.write(1, filled(1))
	a.holdAll()
	b.holdAll()
	b.write(1, filled(2))
	b.write(2, filled(3))
	a.sync()
	a.holdAll()
	b.holdAll()
	a.breaks(0)
	b.sync()
	a.sync()
	holdDown(t, a.d, true)
	holdDown(t, b.d, false)
	b.write(0, filled(4))
	a.crash(true)
	a.holdAll()
	b.holdAll()
	b.breaks(0)
	b.write(0, filled(5))
	holdDown(t, a.d, false)
	a.write(2, filled(6))
	b.crash()
	a.holdAll()
	b.holdAll()
	(&pair{t, disk.New(3), modelOf(3)}).holdAll()
}

// P7.1, P7.2, P7.3: whatever comes behind one another.
func TestAgainstModel(t *testing.T) {
	for seed := range 60 {
		from := rand.New(rand.NewSource(int64(seed)))
		sectors := []int{0, 1, 3, 8, 512}[seed%5]
		p := pairOf(t, sectors)
		downs, kept := 0, 0
		for n := range 600 {
			before := p.m.down
			switch x := from.Intn(20); {
			case x < 12:
				p.write(from.Intn(sectors+2)-1, filled(byte(n)))
			case x < 15:
				p.sync()
			case x < 18:
				p.breaks(from.Intn(12) - 2)
			default:
				keep := bools(from.Intn(12), from.Intn(1<<12))
				kept += min(len(keep), len(p.m.pending))
				p.crash(keep...)
			}
			if p.m.down && !before {
				downs++
			}
			if sectors < 100 || n%20 == 0 {
				p.holdAll()
			}
		}
		p.holdAll()
		if sectors > 0 && (downs < 5 || kept < 5) {
			t.Errorf("seed %d: DOWN %d times, %d writes in crashes", seed, downs, kept)
		}
	}
}
