package wal_test

import (
	"bytes"
	"math"
	"math/rand"
	"slices"
	"testing"

	"floodgate/api"
	"floodgate/disk"
	"floodgate/frame"
	"floodgate/wal"
)

// Here the sizes stand as the chapters write them: SEGMENTS of 16 sectors, the first one at sector 32.

// segsOf is how many SEGMENTS a disk has that can be.
func segsOf(sectors int) int { return (sectors - 32) / 16 }

// nextOf is the SEGMENT behind one.
func nextOf(sectors, k int) int {
	if k == segsOf(sectors)-1 {
		return 0
	}
	return k + 1
}

// sizeOf is how many sectors a record needs: two, eight and four bytes, the payload, and four of the sum.
func sizeOf(payload int) int { return (2 + 8 + 4 + payload + 4 + 63) / 64 }

// full is the longest payload that needs just so many sectors.
func full(sectors, seed int) []byte { return payload(min(64*sectors-18, 700), seed) }

// payload is so many bytes, none of them 0, which are others for another seed.
func payload(n, seed int) []byte {
	// The library's source takes long to begin with each seed, and there are many of them.
	x := uint64(seed)
	b := make([]byte, n)
	for i := range b {
		x = (x + 1) * 0x9e3779b97f4a7c15
		b[i] = byte(1 + x>>32%255)
	}
	return b
}

// model is a log by its words, and what a disk's sectors are behind it.
type model struct {
	sectors             []api.Sector
	epoch               uint32
	next                uint64
	started, now, taken int
}

func modelOf(sectors []api.Sector, epoch uint32, seq uint64, seg int) *model {
	return &model{slices.Clone(sectors), epoch, seq, seg, seg, 0}
}

// left counts the sectors of each SEGMENT that is to come.
func (m *model) left() int {
	n := 16 - m.taken
	for k := nextOf(len(m.sectors), m.now); k != m.started; k = nextOf(len(m.sectors), k) {
		n += 16
	}
	return n
}

func (m *model) needsNext(payload int) bool { return m.taken+sizeOf(payload) > 16 }

func (m *model) room(payload int) bool {
	if payload < 0 || payload > 700 || m.next == 0 {
		return false
	}
	return !m.needsNext(payload) || nextOf(len(m.sectors), m.now) != m.started
}

func (m *model) append(payload []byte) (uint64, api.Errno) {
	if len(payload) > 700 {
		return 0, api.ErrFrame
	}
	if !m.room(len(payload)) {
		return 0, api.ErrFull
	}
	if m.needsNext(len(payload)) {
		m.now, m.taken = nextOf(len(m.sectors), m.now), 0
	}
	l, _ := frame.Make(api.Record{Seq: m.next, Epoch: m.epoch, Payload: payload})
	m.taken += copy(m.sectors[32+16*m.now+m.taken:], l)
	m.next++
	return m.next - 1, api.OK
}

// scanOf is Scan by its words, of sectors, from a number that isn't 0 and a SEGMENT that is there.
func scanOf(sectors []api.Sector, epoch uint32, seq uint64, seg int) ([]api.Record, int) {
	var out []api.Record
	now, taken := seg, 0
	take := func(k, behind int) bool {
		r, n, ok := frame.Open(sectors[32+16*k+behind : 48+16*k])
		if !ok || r.Epoch != epoch || r.Seq != seq {
			return false
		}
		out = append(out, r)
		now, taken, seq = k, behind+n, seq+1
		return true
	}
	if !take(seg, 0) {
		return nil, seg
	}
	for {
		if take(now, taken) {
			continue
		}
		if k := nextOf(len(sectors), now); k == seg || !take(k, 0) {
			return out, now
		}
	}
}

// read is what a disk's sectors are by Read.
func read(d *disk.Disk) []api.Sector {
	var out []api.Sector
	for i := range d.Len() {
		s, _ := d.Read(i)
		out = append(out, s)
	}
	return out
}

// pair is a log on a disk, and the model it is held against.
type pair struct {
	t *testing.T
	d *disk.Disk
	l *wal.Log
	m *model
}

func pairOn(t *testing.T, d *disk.Disk, epoch uint32, seq uint64, seg int) *pair {
	t.Helper()
	l, e := wal.Start(d, epoch, seq, seg)
	if l == nil || e != api.OK {
		t.Fatalf("Start of %d sectors, %d, %d, %d = %v, %d", d.Len(), epoch, seq, seg, l, e)
	}
	p := &pair{t, d, l, modelOf(read(d), epoch, seq, seg)}
	p.hold()
	return p
}

func pairOf(t *testing.T, sectors int, epoch uint32, seq uint64, seg int) *pair {
	t.Helper()
	return pairOn(t, disk.New(sectors), epoch, seq, seg)
}

// hold holds what the log tells of itself against the model.
func (p *pair) hold() {
	p.t.Helper()
	if p.l.Next() != p.m.next || p.l.Seg() != p.m.now || p.l.Left() != p.m.left() {
		p.t.Fatalf("%d sectors, STARTED with %d: Next, Seg, Left = %d, %d, %d, not %d, %d, %d",
			p.d.Len(), p.m.started, p.l.Next(), p.l.Seg(), p.l.Left(), p.m.next, p.m.now, p.m.left())
	}
}

// holdRoom holds Room against the model, at payloads about each number of sectors.
func (p *pair) holdRoom() {
	p.t.Helper()
	ns := []int{math.MinInt, math.MinInt + 18, -65, -18, -1, 0, 1, 699, 700, 701, 1000, 1 << 16, math.MaxInt - 80, math.MaxInt}
	for n := 46; n < 760; n += 64 {
		ns = append(ns, n, n+1)
	}
	for _, n := range ns {
		if got := p.l.Room(n); got != p.m.room(n) {
			p.t.Fatalf("%d TAKEN, Left %d: Room(%d) = %t", p.m.taken, p.m.left(), n, got)
		}
	}
}

// holdDisk holds what is on the disk against the model.
func (p *pair) holdDisk() {
	p.t.Helper()
	for i, want := range p.m.sectors {
		if s, _ := p.d.Read(i); s != want {
			p.t.Fatalf("sector %d is %v, not %v", i, s, want)
		}
	}
}

func (p *pair) append(payload []byte) {
	p.t.Helper()
	want, wantErr := p.m.append(payload)
	if seq, e := p.l.Append(payload); seq != want || e != wantErr {
		p.t.Fatalf("Append of %d bytes = %d, %d, not %d, %d", len(payload), seq, e, want, wantErr)
	}
	p.hold()
}

// appendAll Appends records that need so many sectors each.
func (p *pair) appendAll(sizes ...int) {
	p.t.Helper()
	for _, n := range sizes {
		p.append(full(n, int(p.m.next)))
	}
}

func sameRecord(a, b api.Record) bool {
	return a.Seq == b.Seq && a.Epoch == b.Epoch && bytes.Equal(a.Payload, b.Payload)
}

// holdScan holds Scan against its words, and answers how many records there are.
func holdScan(t *testing.T, d *disk.Disk, epoch uint32, seq uint64, seg int) int {
	t.Helper()
	want, last := scanOf(read(d), epoch, seq, seg)
	got, at, e := wal.Scan(d, epoch, seq, seg)
	if e != api.OK || at != last || !slices.EqualFunc(got, want, sameRecord) {
		t.Fatalf("Scan of %d, %d, %d = %d records, %d, %d, not %d, %d", epoch, seq, seg, len(got), at, e, len(want), last)
	}
	return len(got)
}

// holdFound is holdScan, and tells by numbers how many records and which segment it is to be.
func holdFound(t *testing.T, d *disk.Disk, epoch uint32, seq uint64, seg int, records, last int) {
	t.Helper()
	n := holdScan(t, d, epoch, seq, seg)
	if _, at, _ := wal.Scan(d, epoch, seq, seg); n != records || at != last {
		t.Fatalf("Scan of %d, %d, %d = %d records, %d, not %d, %d", epoch, seq, seg, n, at, records, last)
	}
}

// sizes of disks that can be: two segments, with sectors left over behind them and without, three, and the most.
func disks() []int { return []int{64, 79, 80, 81, 95, 112, 495, 511, 512} }

// lay writes a record's sectors somewhere.
func lay(t *testing.T, d *disk.Disk, at int, r api.Record) {
	t.Helper()
	l, e := frame.Make(r)
	if e != api.OK {
		t.Fatal(e)
	}
	for i, s := range l {
		if e := d.Write(at+i, s); e != api.OK {
			t.Fatal(e)
		}
	}
}

// P10.4: the chapter's own example.
func TestExample(t *testing.T) {
	d := disk.New(64)
	l, _ := wal.Start(d, 1, 1, 0)
	l.Append([]byte("a"))
	if e := l.Sync(); e != api.OK {
		t.Fatal(e)
	}
	l.Append([]byte("b"))
	d.Crash(nil)
	r, seg, e := wal.Scan(d, 1, 1, 0)
	if e != api.OK || seg != 0 || len(r) != 1 || !sameRecord(r[0], api.Record{Seq: 1, Epoch: 1, Payload: []byte("a")}) {
		t.Errorf("Scan = %v, %d, %d", r, seg, e)
	}
}

// The chapter's sizes are package api's.
func TestSizes(t *testing.T) {
	if api.SegSize != 16 || api.SectorSize != 64 || api.MaxPayload != 700 || api.ErrFull != 101 || api.ErrFrame != 81 || api.ErrArea != 91 {
		t.Error(api.SegSize, api.SectorSize, api.MaxPayload, api.ErrFull, api.ErrFrame, api.ErrArea)
	}
}

// P10.1
func TestStart(t *testing.T) {
	for _, sectors := range disks() {
		for seg := range segsOf(sectors) {
			for _, seq := range []uint64{1, 2, 1 << 48, 1 << 63, math.MaxUint64} {
				l, e := wal.Start(disk.New(sectors), uint32(seq), seq, seg)
				if e != api.OK || l.Next() != seq || l.Seg() != seg || l.Left() != 16*segsOf(sectors) {
					t.Errorf("Start of %d sectors, %d, %d = %d; %d, %d, %d", sectors, seq, seg, e, l.Next(), l.Seg(), l.Left())
				}
			}
		}
	}
}

// holdRefused holds what Start and Scan answer where no log can be.
func holdRefused(t *testing.T, sectors int, seq uint64, seg int, want api.Errno) {
	t.Helper()
	d := disk.New(sectors)
	for _, epoch := range []uint32{0, 1, math.MaxUint32} {
		if l, e := wal.Start(d, epoch, seq, seg); l != nil || e != want {
			t.Errorf("Start of %d sectors, %d, %d, %d = %v, %d, not %d", sectors, epoch, seq, seg, l, e, want)
		}
		if r, at, e := wal.Scan(d, epoch, seq, seg); len(r) != 0 || at != 0 || e != want {
			t.Errorf("Scan of %d sectors, %d, %d, %d = %v, %d, %d, not %d", sectors, epoch, seq, seg, r, at, e, want)
		}
	}
}

// P10.1, P10.3: a disk that can't be has no segment; that comes ahead of a seq that can't be.
func TestNoDisk(t *testing.T) {
	for _, sectors := range []int{-1, 0, 1, 10, 16, 31, 32, 33, 47, 48, 62, 63} {
		for _, seg := range []int{math.MinInt, -1, 0, 1, 2, math.MaxInt} {
			holdRefused(t, sectors, 1, seg, api.ErrArea)
			holdRefused(t, sectors, 0, seg, api.ErrArea)
		}
	}
}

// P10.1, P10.3
func TestNoSegment(t *testing.T) {
	for _, sectors := range disks() {
		n := segsOf(sectors)
		for _, seg := range []int{math.MinInt, -n, -1, n, n + 1, 2 * n, 1 << 32, 1 << 60, math.MaxInt} {
			holdRefused(t, sectors, 1, seg, api.ErrArea)
			holdRefused(t, sectors, math.MaxUint64, seg, api.ErrArea)
			holdRefused(t, sectors, 0, seg, api.ErrArea)
		}
	}
}

// P10.1, P10.3
func TestNoSeq(t *testing.T) {
	for _, sectors := range disks() {
		for seg := range segsOf(sectors) {
			holdRefused(t, sectors, 0, seg, api.ErrFrame)
		}
	}
}

// P10.1: Start is no act either, so that it goes on a disk that is DOWN.
func TestStartWritesNothing(t *testing.T) {
	for _, down := range []bool{false, true} {
		d := disk.New(80)
		for i := range 80 {
			d.Write(i, api.Sector{byte(i + 1)})
		}
		d.Sync()
		d.Write(40, api.Sector{200})
		d.Break(0)
		if down {
			d.Sync()
		}
		ahead := read(d)
		for seg := range 3 {
			if _, e := wal.Start(d, 1, 1, seg); e != api.OK {
				t.Errorf("Start = %d", e)
			}
			wal.Start(d, 1, 0, seg)
			wal.Start(d, 1, 1, -1)
		}
		if d.Down() != down || !slices.Equal(d.Pending(), []int{40}) || !slices.Equal(read(d), ahead) {
			t.Errorf("behind Start: Down %t, Pending %v", d.Down(), d.Pending())
		}
	}
}

// P10.1: from the segment it STARTED with to the one before that, whichever that was.
func TestLeft(t *testing.T) {
	for _, sectors := range disks() {
		for _, seg := range []int{0, 1, segsOf(sectors) / 2, segsOf(sectors) - 1} {
			p := pairOf(t, sectors, 3, 7, seg)
			for want := 16 * segsOf(sectors); want > 0; want -= 4 {
				if got := p.l.Left(); got != want {
					t.Fatalf("%d sectors from %d: Left = %d, not %d", sectors, seg, got, want)
				}
				p.appendAll(4)
			}
			before := (seg + segsOf(sectors) - 1) % segsOf(sectors)
			if p.l.Left() != 0 || p.l.Seg() != before {
				t.Errorf("%d sectors from %d: Left = %d in %d, not 0 in %d", sectors, seg, p.l.Left(), p.l.Seg(), before)
			}
		}
	}
}

// P10.1: what is left over at a segment's end isn't Left any more once the log is in the next one.
func TestLeftByWords(t *testing.T) {
	for _, c := range []struct {
		seg   int
		sizes []int
		now   int
		left  int
	}{
		{0, nil, 0, 48}, {0, []int{1}, 0, 47}, {0, []int{12}, 0, 36}, {0, []int{12, 4}, 0, 32}, {0, []int{12, 5}, 1, 27},
		{0, []int{12, 5, 12}, 2, 4}, {0, []int{12, 5, 12, 3}, 2, 1}, {0, []int{12, 5, 12, 4}, 2, 0}, {0, []int{12, 12, 12}, 2, 4},
		{1, nil, 1, 48}, {1, []int{12, 5}, 2, 27}, {1, []int{12, 5, 12}, 0, 4}, {1, []int{12, 12, 12, 4}, 0, 0}, {1, []int{12, 12, 1}, 2, 19},
		{2, nil, 2, 48}, {2, []int{12, 5}, 0, 27}, {2, []int{12, 5, 12}, 1, 4}, {2, []int{12, 12, 12, 4}, 1, 0}, {2, []int{12, 12, 4, 1}, 1, 15},
	} {
		p := pairOf(t, 80, 1, 1, c.seg)
		p.appendAll(c.sizes...)
		if p.l.Seg() != c.now || p.l.Left() != c.left {
			t.Errorf("from %d, %v: Seg, Left = %d, %d, not %d, %d", c.seg, c.sizes, p.l.Seg(), p.l.Left(), c.now, c.left)
		}
	}
}

// P10.2
func TestAppend(t *testing.T) {
	for _, c := range []struct{ payload, sectors int }{
		{0, 1}, {1, 1}, {45, 1}, {46, 1}, {47, 2}, {110, 2}, {111, 3}, {686, 11}, {687, 12}, {699, 12}, {700, 12},
	} {
		for _, seq := range []uint64{1, 0x0102030405060708, math.MaxUint64} {
			p := pairOf(t, 64, 0x0a0b0c0d, seq, 1)
			p.append(payload(c.payload, 3))
			if p.l.Left() != 32-c.sectors || p.l.Next() != seq+1 {
				t.Errorf("%d bytes: Left, Next = %d, %d", c.payload, p.l.Left(), p.l.Next())
			}
			p.holdDisk()
			r, n, ok := frame.Open(read(p.d)[48:])
			if !ok || n != c.sectors || !sameRecord(r, api.Record{Seq: seq, Epoch: 0x0a0b0c0d, Payload: payload(c.payload, 3)}) {
				t.Errorf("%d bytes: %v, %d, %t is on the disk", c.payload, r, n, ok)
			}
		}
	}
}

// P10.2: a payload that is too long is told ahead of a log that is full, and leaves it as it was.
func TestAppendTooLong(t *testing.T) {
	for _, sizes := range [][]int{nil, {12}, {12, 4}, {12, 4, 12, 4}} {
		for _, n := range []int{701, 702, 750, 751, 1 << 16, 1<<16 + 1, 1 << 20} {
			p := pairOf(t, 64, 1, math.MaxUint64-uint64(len(sizes)), 0)
			p.appendAll(sizes...)
			if seq, e := p.l.Append(make([]byte, n)); seq != 0 || e != api.ErrFrame {
				t.Errorf("Append of %d bytes = %d, %d", n, seq, e)
			}
			p.hold()
			p.holdRoom()
			p.holdDisk()
		}
	}
	p := pairOf(t, 64, 1, math.MaxUint64, 0)
	p.appendAll(1)
	if seq, e := p.l.Append(make([]byte, 701)); p.l.Next() != 0 || seq != 0 || e != api.ErrFrame {
		t.Errorf("NEXT 0: Append of 701 bytes = %d, %d", seq, e)
	}
}

// P10.2: sector by sector, in their order, and nothing else is written; nothing is Synced.
func TestAppendWrites(t *testing.T) {
	p := pairOf(t, 80, 1, 1, 1)
	p.appendAll(3, 12, 1, 2)
	// The one sector fills segment 1 up, so that the two begin segment 2.
	want := []int{48, 49, 50, 51, 52, 53, 54, 55, 56, 57, 58, 59, 60, 61, 62, 63, 64, 65}
	if got := p.d.Pending(); !slices.Equal(got, want) {
		t.Errorf("Pending = %v, not %v", got, want)
	}
	p.appendAll(12, 3)
	want = append(want, 66, 67, 68, 69, 70, 71, 72, 73, 74, 75, 76, 77, 32, 33, 34)
	if got := p.d.Pending(); !slices.Equal(got, want) {
		t.Errorf("Pending = %v, not %v", got, want)
	}
	if s, _ := p.d.Stable(48); s != (api.Sector{}) {
		t.Errorf("sector 48 is STABLE without a Sync")
	}
	p.holdDisk()
}

// P10.2: a record that ends just with the segment is in it; one that would end a sector behind it, or more, begins the next one.
func TestSegmentsEnd(t *testing.T) {
	for _, sectors := range []int{64, 80, 512} {
		for _, seg := range []int{0, segsOf(sectors) - 1} {
			for taken := range 17 {
				for size := 1; size <= 12; size++ {
					p := pairOf(t, sectors, 1, 1, seg)
					for range taken {
						p.appendAll(1)
					}
					p.appendAll(size)
					now, left := seg, 16*segsOf(sectors)-taken-size
					if taken+size > 16 {
						now, left = nextOf(sectors, seg), 16*segsOf(sectors)-16-size
					}
					if p.l.Seg() != now || p.l.Left() != left {
						t.Errorf("%d and %d: in %d, %d Left", taken, size, p.l.Seg(), p.l.Left())
					}
					p.holdDisk()
				}
			}
		}
	}
}

// P10.2: what begins the next segment leaves what was left over of the one before as it was, and a shorter record goes behind it.
func TestLeftOverStays(t *testing.T) {
	d := disk.New(64)
	for i := range 64 {
		d.Write(i, api.Sector{77, byte(i)})
	}
	p := pairOn(t, d, 1, 1, 0)
	p.appendAll(10, 7, 1)
	p.holdDisk()
	for i := 42; i < 48; i++ {
		if s, _ := d.Read(i); s != (api.Sector{77, byte(i)}) {
			t.Errorf("sector %d is %v", i, s)
		}
	}
	if p.l.Seg() != 1 || p.l.Left() != 8 {
		t.Errorf("Seg, Left = %d, %d", p.l.Seg(), p.l.Left())
	}
}

// P10.2: the next segment is the one it STARTED with.
func TestFull(t *testing.T) {
	for _, sectors := range disks() {
		for seg := range segsOf(sectors) {
			for _, rest := range []int{0, 1, 4, 5, 11} {
				p := pairOf(t, sectors, 1, 1, seg)
				for range segsOf(sectors) - 1 {
					p.appendAll(8, 8)
				}
				for range 16 - rest {
					p.appendAll(1)
				}
				p.holdFull(rest)
			}
		}
	}
}

// holdFull holds that a log with so many sectors left takes no record that needs more, stays as it is then, and takes one that needs just these.
func (p *pair) holdFull(rest int) {
	p.t.Helper()
	writes := len(p.d.Pending())
	p.holdRoom()
	for n := rest + 1; n <= 12; n++ {
		b := full(n, n)
		if seq, e := p.l.Append(b); seq != 0 || e != api.ErrFull || p.l.Room(len(b)) {
			p.t.Fatalf("%d left, %d needed: Append = %d, %d", rest, n, seq, e)
		}
		p.hold()
	}
	if p.l.Left() != rest || len(p.d.Pending()) != writes {
		p.t.Fatalf("Left = %d, not %d; %d writes, not %d", p.l.Left(), rest, len(p.d.Pending()), writes)
	}
	p.holdDisk()
	if rest > 0 {
		p.appendAll(rest)
	}
	if p.l.Left() != 0 || p.l.Room(0) {
		p.t.Fatalf("Left = %d, Room = %t", p.l.Left(), p.l.Room(0))
	}
	p.append(nil)
	p.holdRoom()
	p.holdDisk()
}

// P10.2: ErrFull on a disk that is DOWN, or goes DOWN by the next act: Room is asked first, and no act is done.
func TestFullIsNoAct(t *testing.T) {
	p := pairOf(t, 64, 1, 1, 0)
	p.appendAll(8, 8, 8, 8)
	p.d.Break(0)
	for range 2 {
		if seq, e := p.l.Append(nil); seq != 0 || e != api.ErrFull {
			t.Errorf("Append = %d, %d", seq, e)
		}
		if seq, e := p.l.Append(make([]byte, 701)); seq != 0 || e != api.ErrFrame {
			t.Errorf("Append = %d, %d", seq, e)
		}
	}
	if p.d.Down() {
		t.Error("it is DOWN by an Append that wrote nothing")
	}
	if e := p.l.Sync(); e != api.ErrPower {
		t.Errorf("Sync = %d", e)
	}
	if seq, e := p.l.Append(nil); seq != 0 || e != api.ErrFull {
		t.Errorf("DOWN: Append = %d, %d", seq, e)
	}
}

// P10.2: behind the greatest number NEXT is 0, and nothing has room.
func TestGreatestNumber(t *testing.T) {
	for _, before := range []int{0, 1, 2, 5} {
		p := pairOf(t, 80, 1, math.MaxUint64-uint64(before), 2)
		for range before {
			p.append(payload(100, before))
		}
		if p.l.Next() != math.MaxUint64 {
			t.Fatalf("Next = %d", p.l.Next())
		}
		p.holdRoom()
		if seq, e := p.l.Append(payload(700, 1)); seq != math.MaxUint64 || e != api.OK || p.l.Next() != 0 {
			t.Fatalf("Append = %d, %d; Next = %d", seq, e, p.l.Next())
		}
		p.m.append(payload(700, 1))
		p.hold()
		p.holdRoom()
		for _, n := range []int{0, 1, 46, 700} {
			if seq, e := p.l.Append(payload(n, 1)); seq != 0 || e != api.ErrFull || p.l.Room(n) {
				t.Errorf("NEXT 0: Append of %d = %d, %d", n, seq, e)
			}
			p.hold()
		}
		p.holdDisk()
		if e := p.l.Sync(); e != api.OK {
			t.Errorf("Sync = %d", e)
		}
		holdFound(t, p.d, 1, math.MaxUint64-uint64(before), 2, before+1, p.l.Seg())
	}
}

// P10.3: no record is behind the one of the greatest number, in this segment or in the next one, not that of the number 1 either.
func TestScanEndsAtGreatestNumber(t *testing.T) {
	p := pairOf(t, 64, 1, math.MaxUint64, 0)
	p.append(nil)
	for _, at := range []int{33, 48} {
		lay(t, p.d, at, api.Record{Seq: 1, Epoch: 1})
	}
	holdFound(t, p.d, 1, math.MaxUint64, 0, 1, 0)
}

// P10.2: the disk's first error is the answer, and what was written ahead of it is written.
func TestAppendOnDiskThatGoesDown(t *testing.T) {
	for taken := range 16 {
		for _, size := range []int{1, 2, 5, 11} {
			for acts := range size {
				p := pairOf(t, 64, 1, 1, 0)
				for range taken {
					p.appendAll(1)
				}
				p.l.Sync()
				at := 32 + taken
				if taken+size > 16 {
					at = 48
				}
				p.d.Break(acts)
				if seq, e := p.l.Append(full(size, 9)); seq != 0 || e != api.ErrPower {
					t.Fatalf("Append = %d, %d", seq, e)
				}
				holdTorn(t, p.d, at, acts, uint64(taken+1), full(size, 9))
				p.d.Crash(slices.Repeat([]bool{true}, size))
				holdFound(t, p.d, 1, 1, 0, taken, 0)
			}
		}
	}
}

// holdTorn holds that the first sectors of a record are PENDING, and no others, on a disk that is DOWN.
func holdTorn(t *testing.T, d *disk.Disk, at, written int, seq uint64, payload []byte) {
	t.Helper()
	l, _ := frame.Make(api.Record{Seq: seq, Epoch: 1, Payload: payload})
	got := d.Pending()
	if len(got) != written || !d.Down() {
		t.Fatalf("Pending = %v, Down = %t, not %d", got, d.Down(), written)
	}
	for i, place := range got {
		if s, _ := d.Read(place); place != at+i || s != l[i] {
			t.Fatalf("sector %d of the record is %v, in %d", i, s, place)
		}
	}
}

// P10.2: on a disk that is DOWN already nothing is written.
func TestDown(t *testing.T) {
	p := pairOf(t, 64, 1, 1, 0)
	p.appendAll(3)
	p.d.Break(0)
	if e := p.l.Sync(); e != api.ErrPower || !p.d.Down() {
		t.Errorf("Sync = %d", e)
	}
	if seq, e := p.l.Append([]byte("x")); seq != 0 || e != api.ErrPower {
		t.Errorf("Append = %d, %d", seq, e)
	}
	if got := p.d.Pending(); !slices.Equal(got, []int{32, 33, 34}) {
		t.Errorf("Pending = %v", got)
	}
	// What is read is Read's, so that a Scan goes on a disk that is DOWN.
	holdFound(t, p.d, 1, 1, 0, 1, 0)
	p.d.Crash(nil)
	holdFound(t, p.d, 1, 1, 0, 0, 0)
}

// P10.2: Sync is the disk's: one act, behind which all is STABLE.
func TestSync(t *testing.T) {
	p := pairOf(t, 64, 1, 1, 1)
	p.d.Break(2)
	if e := p.l.Sync(); e != api.OK {
		t.Errorf("Sync of nothing = %d", e)
	}
	p.d.Break(6)
	p.appendAll(2, 3)
	if e := p.l.Sync(); e != api.OK || len(p.d.Pending()) != 0 {
		t.Errorf("Sync = %d, Pending = %v", e, p.d.Pending())
	}
	p.hold()
	if e := p.l.Sync(); e != api.ErrPower {
		t.Errorf("Sync without an act LEFT = %d", e)
	}
	p.d.Crash(nil)
	p.holdDisk()
	holdFound(t, p.d, 1, 1, 1, 2, 1)
}

// P10.3
func TestScanOfNothing(t *testing.T) {
	for _, sectors := range disks() {
		for seg := range segsOf(sectors) {
			d := disk.New(sectors)
			holdFound(t, d, 0, 1, seg, 0, seg)
			pairOn(t, d, 1, 1, seg)
			holdFound(t, d, 1, 1, seg, 0, seg)
			for i := range sectors {
				d.Write(i, api.Sector{0, 3, byte(i), 1, 2})
			}
			holdFound(t, d, 1, 1, seg, 0, seg)
		}
	}
}

// P10.3: records in one, two and all segments, from any of them on.
func TestScan(t *testing.T) {
	for _, sectors := range disks() {
		for _, seg := range []int{0, 1, segsOf(sectors) / 2, segsOf(sectors) - 1} {
			p := pairOf(t, sectors, 6, 50, seg)
			for filled := range segsOf(sectors) {
				before := (seg + filled + segsOf(sectors) - 1) % segsOf(sectors)
				if filled == 0 {
					before = seg
				}
				holdFound(t, p.d, 6, 50, seg, 4*filled, before)
				p.append(nil)
				holdFound(t, p.d, 6, 50, seg, 4*filled+1, p.l.Seg())
				p.append(payload(46, filled))
				p.append(payload(700, filled))
				holdFound(t, p.d, 6, 50, seg, 4*filled+3, p.l.Seg())
				p.append(payload(47, filled))
			}
			all := 4 * segsOf(sectors)
			holdFound(t, p.d, 6, 50, seg, all, p.l.Seg())
			if p.l.Left() != 0 {
				t.Errorf("Left = %d", p.l.Left())
			}
			p.l.Sync()
			holdFound(t, p.d, 6, 50, seg, all, p.l.Seg())
		}
	}
}

// P10.3: what is scanned is the log: each number, the epoch and the payload.
func TestScanTellsRecords(t *testing.T) {
	p := pairOf(t, 80, math.MaxUint32, 1<<40, 2)
	var want []api.Record
	for i, n := range []int{0, 1, 46, 47, 700, 0, 699, 46, 150} {
		p.append(payload(n, i))
		want = append(want, api.Record{Seq: 1<<40 + uint64(i), Epoch: math.MaxUint32, Payload: payload(n, i)})
	}
	r, seg, e := wal.Scan(p.d, math.MaxUint32, 1<<40, 2)
	if e != api.OK || seg != 1 || !slices.EqualFunc(r, want, sameRecord) {
		t.Errorf("Scan = %v, %d, %d", r, seg, e)
	}
}

// P10.3: the first record is at the beginning of the segment, so that from a number in the midst there is none but where a segment begins with it.
func TestScanFromTheMidst(t *testing.T) {
	p := pairOf(t, 80, 4, 10, 1)
	p.appendAll(4, 4, 8, 12, 3, 6, 6)
	for seq, found := range map[uint64]int{10: 7, 11: 0, 12: 0, 13: 0, 16: 0, 17: 0, 9: 0, 1: 0, math.MaxUint64: 0} {
		last := 1
		if found > 0 {
			last = 0
		}
		holdFound(t, p.d, 4, seq, 1, found, last)
	}
	holdFound(t, p.d, 4, 13, 2, 4, 0)
	holdFound(t, p.d, 4, 15, 0, 2, 0)
	for _, seq := range []uint64{10, 12, 14, 15, 16} {
		holdFound(t, p.d, 4, seq, 2, 0, 2)
	}
	for _, seq := range []uint64{10, 13, 14, 16, 17} {
		holdFound(t, p.d, 4, seq, 0, 0, 0)
	}
}

// P10.3
func TestScanOfAnotherEpoch(t *testing.T) {
	for _, epoch := range []uint32{0, 1, 1 << 8, 1 << 31, math.MaxUint32} {
		p := pairOf(t, 64, epoch, 1, 0)
		p.appendAll(1, 2)
		holdFound(t, p.d, epoch, 1, 0, 2, 0)
		for _, other := range []uint32{epoch - 1, epoch + 1, epoch ^ 1<<8, epoch ^ 1<<16, epoch ^ 1<<31} {
			holdFound(t, p.d, other, 1, 0, 0, 0)
		}
	}
}

// P10.3: the Scan ends at a record of another EPOCH, or of a number that isn't the next one.
func TestScanEndsAtAnother(t *testing.T) {
	for _, r := range []api.Record{
		{Seq: 3, Epoch: 6}, {Seq: 3, Epoch: 4}, {Seq: 3}, {Seq: 2, Epoch: 5}, {Seq: 1, Epoch: 5}, {Seq: 4, Epoch: 5}, {Seq: math.MaxUint64, Epoch: 5}, {Seq: 3 + 1<<32, Epoch: 5},
	} {
		p := pairOf(t, 64, 5, 1, 0)
		p.appendAll(2, 2)
		lay(t, p.d, 36, r)
		lay(t, p.d, 37, api.Record{Seq: 3, Epoch: 5})
		holdFound(t, p.d, 5, 1, 0, 2, 0)
		// At the beginning of the next segment as well.
		lay(t, p.d, 48, r)
		lay(t, p.d, 49, api.Record{Seq: 3, Epoch: 5})
		holdFound(t, p.d, 5, 1, 0, 2, 0)
		lay(t, p.d, 48, api.Record{Seq: 3, Epoch: 5})
		holdFound(t, p.d, 5, 1, 0, 3, 1)
	}
}

// P10.3: it goes on at the next segment where nothing is right behind the last, whatever is left over, but where the record is there it goes on with that.
func TestScanGoesOn(t *testing.T) {
	third := api.Record{Seq: 3, Epoch: 5, Payload: []byte("next")}
	here := api.Record{Seq: 3, Epoch: 5, Payload: []byte("here")}
	p := pairOf(t, 80, 5, 1, 0)
	p.appendAll(2, 2)
	lay(t, p.d, 48, third)
	lay(t, p.d, 49, api.Record{Seq: 4, Epoch: 5})
	holdFound(t, p.d, 5, 1, 0, 4, 1)
	lay(t, p.d, 36, here)
	// The fourth one is neither behind the third in segment 0, nor at the beginning of segment 1.
	holdFound(t, p.d, 5, 1, 0, 3, 0)
	if r, _, _ := wal.Scan(p.d, 5, 1, 0); string(r[2].Payload) != "here" {
		t.Errorf("the third one is %q", r[2].Payload)
	}
	lay(t, p.d, 48, api.Record{Seq: 4, Epoch: 5, Payload: []byte("next")})
	holdFound(t, p.d, 5, 1, 0, 4, 1)
	// No segment is passed over.
	lay(t, p.d, 48, third)
	lay(t, p.d, 64, api.Record{Seq: 4, Epoch: 5})
	holdFound(t, p.d, 5, 1, 0, 3, 0)
	// Nor is a sector.
	p.d.Write(36, api.Sector{})
	lay(t, p.d, 37, here)
	p.d.Write(48, api.Sector{})
	lay(t, p.d, 49, here)
	holdFound(t, p.d, 5, 1, 0, 2, 0)
}

// P10.3: the first record isn't looked for in the next segment.
func TestScanBeginsWithItsSegment(t *testing.T) {
	d := disk.New(64)
	lay(t, d, 48, api.Record{Seq: 1, Epoch: 5})
	lay(t, d, 33, api.Record{Seq: 1, Epoch: 5})
	holdFound(t, d, 5, 1, 0, 0, 0)
	holdFound(t, d, 5, 1, 1, 1, 1)
}

// P10.3: a record that reaches over its segment's end isn't there, though all of its sectors are.
func TestScanStaysWithinSegment(t *testing.T) {
	for _, ahead := range []int{7, 8, 15} {
		for over := 1; over <= 3; over++ {
			size := 16 - ahead + over
			p := pairOf(t, 80, 5, 1, 1)
			for range ahead {
				p.appendAll(1)
			}
			r := api.Record{Seq: uint64(ahead) + 1, Epoch: 5, Payload: full(size, 4)}
			lay(t, p.d, 48+ahead, r)
			holdFound(t, p.d, 5, 1, 1, ahead, 1)
			lay(t, p.d, 64, r)
			lay(t, p.d, 64+size, api.Record{Seq: uint64(ahead) + 2, Epoch: 5})
			holdFound(t, p.d, 5, 1, 1, ahead+2, 2)
			// One that ends just with the segment is there.
			lay(t, p.d, 48+ahead, api.Record{Seq: r.Seq, Epoch: 5, Payload: full(16-ahead, 6)})
			lay(t, p.d, 64, api.Record{Seq: r.Seq + 1, Epoch: 5})
			holdFound(t, p.d, 5, 1, 1, ahead+2, 2)
		}
	}
}

// P10.3: behind the last segment comes the first one, but never the one begun with, though that goes on with the next number.
func TestScanEndsAheadOfItsSegment(t *testing.T) {
	for _, sectors := range []int{64, 80, 512} {
		for seg := range segsOf(sectors) {
			d := disk.New(sectors)
			k := seg
			for n := range segsOf(sectors) {
				lay(t, d, 32+16*k, api.Record{Seq: uint64(n + 1), Epoch: 2})
				k = nextOf(sectors, k)
			}
			last := (seg + segsOf(sectors) - 1) % segsOf(sectors)
			holdFound(t, d, 2, 1, seg, segsOf(sectors), last)
			lay(t, d, 32+16*seg, api.Record{Seq: uint64(segsOf(sectors)) + 1, Epoch: 2})
			holdFound(t, d, 2, 1, seg, 0, seg)
			holdFound(t, d, 2, 2, nextOf(sectors, seg), segsOf(sectors), seg)
		}
	}
}

// P10.3: Scan changes nothing, and is no act.
func TestScanChangesNothing(t *testing.T) {
	p := pairOf(t, 64, 1, 1, 0)
	p.appendAll(3, 2)
	p.l.Sync()
	p.appendAll(1)
	p.d.Break(1)
	ahead := read(p.d)
	for range 5 {
		holdFound(t, p.d, 1, 1, 0, 3, 0)
		holdFound(t, p.d, 1, 1, 1, 0, 1)
	}
	if !slices.Equal(p.d.Pending(), []int{37}) || p.d.Down() || !slices.Equal(read(p.d), ahead) {
		t.Errorf("Pending = %v, Down = %t behind a Scan", p.d.Pending(), p.d.Down())
	}
	p.hold()
	p.appendAll(1)
	if e := p.l.Sync(); e != api.ErrPower {
		t.Errorf("Sync = %d", e)
	}
}

// try is a log that is played on a disk till that goes DOWN.
type try struct {
	d        *disk.Disk
	epoch    uint32
	seq      uint64
	seg      int
	appended []api.Record
	// writes are how many each of them has, among all writes; synced how many of the records were.
	writes []int
	synced int
}

// play Appends records of so many bytes each, or Syncs (where it is below 0), as many acts long.
func play(t *testing.T, d *disk.Disk, epoch uint32, seq uint64, seg int, steps []int, acts int) *try {
	t.Helper()
	l, e := wal.Start(d, epoch, seq, seg)
	if e != api.OK {
		t.Fatal(e)
	}
	p := &try{d: d, epoch: epoch, seq: seq, seg: seg}
	d.Break(acts)
	for i, n := range steps {
		if n < 0 {
			if e = l.Sync(); e == api.OK {
				p.synced = len(p.appended)
			}
		} else {
			b := payload(n, int(epoch)*1000+i)
			var got uint64
			if got, e = l.Append(b); e == api.OK {
				p.appended = append(p.appended, api.Record{Seq: got, Epoch: epoch, Payload: b})
				p.writes = append(p.writes, sizeOf(n))
			}
		}
		if e != api.OK {
			break
		}
	}
	if (e == api.ErrPower) != d.Down() || e != api.OK && e != api.ErrPower {
		t.Fatalf("%d, Down = %t", e, d.Down())
	}
	return p
}

// crash crashes the disk and holds P10.4; as no sector is by chance what it was to be, it is known how many are found.
func (p *try) crash(t *testing.T, keep []bool) {
	t.Helper()
	p.d.Crash(keep)
	want := p.synced
	for at := 0; want < len(p.appended); want++ {
		behind := at + p.writes[want]
		if slices.Contains(keep[at:min(behind, len(keep))], false) || behind > len(keep) {
			break
		}
		at = behind
	}
	got, _, e := wal.Scan(p.d, p.epoch, p.seq, p.seg)
	if e != api.OK || !slices.EqualFunc(got, p.appended[:want], sameRecord) {
		t.Fatalf("Scan = %d records, %d, not %d of %d, %d of them Synced; kept: %v", len(got), e, want, len(p.appended), p.synced, keep)
	}
	holdScan(t, p.d, p.epoch, p.seq, p.seg)
}

// keeps are lists of bools for so many writes: all there are, or many of them.
func keeps(writes int, seed int64) [][]bool {
	bools := func(bits int) []bool {
		var out []bool
		for i := range writes {
			out = append(out, bits>>i&1 == 1)
		}
		return out
	}
	var out [][]bool
	if writes <= 6 {
		for bits := range 1 << writes {
			out = append(out, bools(bits))
		}
		return out
	}
	from := rand.New(rand.NewSource(seed))
	all := 1<<writes - 1
	out = append(out, bools(0), bools(all), bools(from.Intn(all)), bools(from.Intn(all)))
	for i := range writes {
		// Only one of them is lost, only the first ones are kept, only the last ones are.
		out = append(out, bools(all&^(1<<i)), bools(1<<i-1), bools(all&^(1<<i-1)))
	}
	return out
}

// plays are what is done with a log on a disk of three segments: payloads, and Syncs where it is below 0; not all of them end with one.
func plays() [][]int {
	return [][]int{
		{0, -1, 0},
		{-1, 46, 47, -1, -1, 1, 0, 200},
		{100, -1, 300, -1, 500, -1, 50, -1, 400, -1},
		{0, 1, 46, 47, 110, 111, 300, 150, 200, -1, 0, 47},
		{700, -1, 700, 10, -1, 150, 700, 46, -1, 46, 46, -1, 46},
		{686, 302, -1, 686, 303, 600, -1},
	}
}

// P10.4: on a new disk, and on one where an elder log had records of these numbers, longer and shorter ones.
func TestCrash(t *testing.T) {
	for i, steps := range plays() {
		total := 0
		for _, n := range steps {
			if n < 0 {
				total++
			} else {
				total += sizeOf(n)
			}
		}
		for acts := range total + 2 {
			for elder := range len(plays()) + 1 {
				crashes(t, steps, elder, acts, (i+elder)%3)
			}
		}
	}
}

// crashes plays anew for each choice of writes that are kept.
func crashes(t *testing.T, steps []int, elder, acts, seg int) {
	t.Helper()
	begin := func() *try {
		d := disk.New(80)
		if elder > 0 {
			play(t, d, 1, 10, seg, plays()[elder-1], -1)
			d.Sync()
		}
		return play(t, d, 2, 10, seg, steps, acts)
	}
	for _, keep := range keeps(len(begin().d.Pending()), int64(acts)) {
		begin().crash(t, keep)
	}
}

// P10.4: a log that is begun behind another one, and is torn, leaves that one's records as they were.
func TestCrashOfSecondLog(t *testing.T) {
	for acts := range 30 {
		d := disk.New(112)
		first := play(t, d, 1, 1, 3, []int{700, 100, 300, -1}, -1)
		d.Crash(nil)
		second := play(t, d, 2, 4, 0, []int{300, -1, 700, 20, 46, -1, 47}, acts)
		pending := len(d.Pending())
		keep := make([]bool, pending)
		for i := range keep {
			keep[i] = i%3 != acts%3
		}
		second.crash(t, keep)
		r, seg, e := wal.Scan(d, 1, 1, 3)
		if e != api.OK || seg != 4 || !slices.EqualFunc(r, first.appended, sameRecord) {
			// The first log has two records in segment 3, and one in segment 4.
			t.Fatalf("Scan = %d records, %d, %d", len(r), seg, e)
		}
	}
}

// spoil writes over bytes, spare room included.
func spoil(b []byte) {
	b = b[:cap(b)]
	for i := range b {
		b[i] ^= 255
	}
}

// What is handed in is neither changed nor kept.
func TestHandedIn(t *testing.T) {
	p := pairOf(t, 64, 1, 1, 0)
	for _, n := range []int{0, 1, 46, 47, 600, 700} {
		b := payload(800, n)
		p.append(b[:n])
		if !bytes.Equal(b, payload(800, n)) {
			t.Errorf("Append of %d bytes has changed them, or what is behind them", n)
		}
		spoil(b)
		p.holdDisk()
	}
	p.l.Sync()
	p.holdDisk()
	holdScan(t, p.d, 1, 1, 0)
}

// What is handed out is new, and no two parts of it share anything.
func TestHandedOut(t *testing.T) {
	p := pairOf(t, 64, 1, 1, 0)
	for i, n := range []int{10, 46, 0, 47, 300, 1, 700} {
		p.append(payload(n, i))
	}
	ahead := read(p.d)
	kept, _, _ := wal.Scan(p.d, 1, 1, 0)
	got, _, _ := wal.Scan(p.d, 1, 1, 0)
	if len(got) != 7 {
		t.Fatalf("%d records", len(got))
	}
	for i := range got {
		spoil(got[i].Payload)
		for k := i + 1; k < len(got); k++ {
			if !sameRecord(got[k], kept[k]) {
				t.Fatalf("record %d is another one behind a change of record %d", k, i)
			}
		}
	}
	clear(got[:cap(got)])
	if !slices.Equal(read(p.d), ahead) {
		t.Error("the disk is another one behind a change of what Scan told")
	}
	p.appendAll(1)
	for i := range p.d.Len() {
		p.d.Write(i, api.Sector{})
	}
	for i, n := range []int{10, 46, 0, 47, 300, 1, 700} {
		if !bytes.Equal(kept[i].Payload, payload(n, i)) {
			t.Errorf("record %d is another one behind a change of the disk", i)
		}
	}
}

// P2: logs on two disks, or in two parts of one, have nothing in common but the disk.
func TestTwoLogs(t *testing.T) {
	a, b := pairOf(t, 80, 1, 1, 0), pairOf(t, 80, 2, 100, 2)
	c := pairOn(t, a.d, 3, 50, 2)
	for range 3 {
		a.appendAll(3)
		b.appendAll(5)
		c.appendAll(2)
		a.hold()
		b.hold()
	}
	b.holdDisk()
	holdFound(t, a.d, 1, 1, 0, 3, 0)
	holdFound(t, b.d, 2, 100, 2, 3, 2)
	holdFound(t, a.d, 3, 50, 2, 3, 2)
	holdFound(t, b.d, 1, 1, 0, 0, 0)
}

// P10.1, P10.2, P10.3: whatever comes behind one another, on disks on which elder logs were.
func TestAgainstModel(t *testing.T) {
	refused, moved := 0, 0
	for seed := range 60 {
		from := rand.New(rand.NewSource(int64(seed)))
		d := disk.New(disks()[seed%6])
		for epoch := range uint32(6) {
			seq := 1 + uint64(from.Intn(5))
			p := pairOn(t, d, epoch, seq, from.Intn(segsOf(d.Len())))
			for range from.Intn(60) {
				now, next := p.l.Seg(), p.l.Next()
				p.append(payload(from.Intn(720)>>from.Intn(6), from.Int()))
				if p.l.Next() == next {
					refused++
				}
				if p.l.Seg() != now {
					moved++
				}
				if from.Intn(5) == 0 {
					p.l.Sync()
				}
				p.holdRoom()
			}
			p.holdDisk()
			if n := holdScan(t, d, epoch, seq, p.m.started); uint64(n) != p.l.Next()-seq {
				t.Fatalf("Scan = %d records, not %d", n, p.l.Next()-seq)
			}
			for seg := range segsOf(d.Len()) {
				for of := range epoch + 1 {
					holdScan(t, d, of, 1+uint64(from.Intn(60)), seg)
				}
			}
		}
	}
	if refused < 50 || moved < 50 {
		t.Errorf("%d Appends were refused, %d began a segment", refused, moved)
	}
}
