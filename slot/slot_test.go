package slot_test

import (
	"bytes"
	"math"
	"math/big"
	"math/rand"
	"reflect"
	"slices"
	"testing"

	"floodgate/api"
	"floodgate/book"
	"floodgate/disk"
	"floodgate/frame"
	"floodgate/slot"
)

// Here the sizes stand as the chapters write them, not as package api does: numbers to 2 to the power of 48, epochs to 2 to the power of 31, two SLOTS of 16 sectors each, at 0 and 16, SEGMENTS of 16 from 32 on.

const (
	most      = uint64(1) << 48
	mostEpoch = uint32(1) << 31
	greatest  = uint64(math.MaxUint64)
)

// sold is a policy of a subscriber, RIGHT if that is; no two subscribers have the same Net.
func sold(sub int) api.Policy {
	return api.Policy{
		Sub: sub, Net: api.Net{Addr: api.Addr{10, byte(sub)}, Bits: 16},
		Rate: 1000, Burst: 3000, SlowRate: 100, SlowBurst: 2000, Quota: 90000, Lease: 5000, Quantum: 1600,
	}
}

// long is an Entry whose numbers have as many bytes as they can.
func long(sub int) api.Entry {
	return api.Entry{Granted: most, Policy: api.Policy{
		Sub: sub, Net: api.Net{Addr: api.Addr{255, byte(sub)}, Bits: 16},
		Rate: most, Burst: most, SlowRate: most, SlowBurst: most, Quota: most, Lease: most, Quantum: most,
	}}
}

// held is a book of so many subscribers, of which something was granted.
func held(period uint64, subs int) api.Book {
	b := api.Book{Period: period}
	for sub := 1; sub <= subs; sub++ {
		b.Entries = append(b.Entries, api.Entry{Policy: sold(sub), Granted: 300 + uint64(sub)})
	}
	return b
}

// fullest is a book of which none has more bytes.
func fullest() api.Book {
	b := api.Book{Period: most}
	for sub := 248; sub <= 255; sub++ {
		b.Entries = append(b.Entries, long(sub))
	}
	return b
}

// check is a checkpoint of a generation and of so many subscribers; each generation has others of all its numbers.
func check(gen uint64, subs int) api.Check {
	return api.Check{Gen: gen, Epoch: uint32(gen%1000) + 3, Seq: gen%1000*7 + 1, Seg: int(gen % 2), Book: held(gen%1000+9, subs)}
}

// filled is a checkpoint with the fullest book.
func filled(gen uint64) api.Check {
	c := check(gen, 0)
	c.Book = fullest()
	return c
}

func copyOf(c api.Check) api.Check {
	c.Book.Entries = slices.Clone(c.Book.Entries)
	return c
}

// changed is a checkpoint's copy that something was done to.
func changed(c api.Check, do func(*api.Check)) api.Check {
	out := copyOf(c)
	do(&out)
	return out
}

// alike is Same by its words.
func alike(a, b api.Check) bool {
	if len(a.Book.Entries) == 0 && len(b.Book.Entries) == 0 {
		a.Book.Entries, b.Book.Entries = nil, nil
	}
	return reflect.DeepEqual(a, b)
}

// segsOf is how many SEGMENTS a disk has.
func segsOf(sectors int) int {
	if sectors < 64 {
		return 0
	}
	return (sectors - 32) / 16
}

// can is Right by its words, on a disk of so many sectors.
func can(sectors int, c api.Check) bool {
	return 1 <= c.Gen && c.Gen <= most && 1 <= c.Seq && c.Seq <= most && c.Epoch <= mostEpoch &&
		0 <= c.Seg && c.Seg < segsOf(sectors) && book.Right(c.Book)
}

// spelt is layer 2's Put by its words.
func spelt(n uint64) []byte {
	out := []byte{byte(n % 128)}
	for n /= 128; n > 0; n /= 128 {
		out[len(out)-1] += 128
		out = append(out, byte(n%128))
	}
	return out
}

func bytesOf(l ...uint64) []byte {
	var out []byte
	for _, n := range l {
		out = append(out, spelt(n)...)
	}
	return out
}

// numsOf are the numbers of a checkpoint's payload, RIGHT or not, by their words.
func numsOf(c api.Check) []uint64 {
	out := []uint64{c.Seq, uint64(c.Seg), c.Book.Period}
	for _, x := range c.Book.Entries {
		p := x.Policy
		a := p.Net.Addr
		number := uint64(a[0])*(1<<24) + uint64(a[1])*(1<<16) + uint64(a[2])*(1<<8) + uint64(a[3])
		out = append(out, uint64(p.Sub), number, uint64(p.Net.Bits), p.Rate, p.Burst, p.SlowRate, p.SlowBurst, p.Quota, p.Lease, p.Quantum, x.Granted)
	}
	return out
}

// recordOf is the record of a checkpoint, RIGHT or not, by its words.
func recordOf(c api.Check) api.Record {
	return api.Record{Seq: c.Gen, Epoch: c.Epoch, Payload: bytesOf(numsOf(c)...)}
}

func sameRecord(a, b api.Record) bool {
	return a.Seq == b.Seq && a.Epoch == b.Epoch && bytes.Equal(a.Payload, b.Payload)
}

// sectorsOf are those of a checkpoint's record, RIGHT or not.
func sectorsOf(c api.Check) []api.Sector { return made(recordOf(c)) }

func made(r api.Record) []api.Sector {
	l, e := frame.Make(r)
	if e != api.OK {
		panic("no record")
	}
	return l
}

// firstOf is the first sector of a generation's SLOT.
func firstOf(gen uint64) int {
	if gen%2 == 0 {
		return 0
	}
	return 16
}

// numbers are those whose bytes these are, as whole numbers of any size till they are held against their own spelling.
func numbers(b []byte) []uint64 {
	var out []uint64
	for len(b) > 0 {
		size := 1 + slices.IndexFunc(b, func(c byte) bool { return c < 128 })
		sum := new(big.Int)
		for i := range size {
			digit := big.NewInt(int64(b[i] % 128))
			sum.Add(sum, digit.Lsh(digit, uint(7*i)))
		}
		if size == 0 || !sum.IsUint64() || !bytes.Equal(spelt(sum.Uint64()), b[:size]) {
			return nil
		}
		out = append(out, sum.Uint64())
		b = b[size:]
	}
	return out
}

// guess is a checkpoint made of whatever lies in a record; it is to be held against its own record.
func guess(r api.Record) api.Check {
	l := numbers(r.Payload)
	if len(l) < 3 {
		return api.Check{}
	}
	c := api.Check{Gen: r.Seq, Epoch: r.Epoch, Seq: l[0], Seg: int(min(l[1], 1000)), Book: api.Book{Period: l[2]}}
	for l = l[3:]; len(l) >= 11; l = l[11:] {
		n := min(l[1], 1<<32-1)
		c.Book.Entries = append(c.Book.Entries, api.Entry{Granted: l[10], Policy: api.Policy{
			Sub:  int(min(l[0], 256)),
			Net:  api.Net{Addr: api.Addr{byte(n >> 24), byte(n >> 16), byte(n >> 8), byte(n)}, Bits: int(min(l[2], 33))},
			Rate: l[3], Burst: l[4], SlowRate: l[5], SlowBurst: l[6], Quota: l[7], Lease: l[8], Quantum: l[9],
		}})
	}
	return c
}

// readOf is Read by its words, of a disk's sectors.
func readOf(l []api.Sector) (api.Check, bool) {
	var out []api.Check
	for _, first := range []int{0, 16} {
		if len(l) < first+16 {
			continue
		}
		r, _, ok := frame.Open(l[first : first+16])
		c := guess(r)
		if ok && can(len(l), c) && sameRecord(recordOf(c), r) && firstOf(c.Gen) == first {
			out = append(out, c)
		}
	}
	if len(out) == 0 {
		return api.Check{}, false
	}
	return slices.MaxFunc(out, func(a, b api.Check) int { return new(big.Int).SetUint64(a.Gen).Cmp(new(big.Int).SetUint64(b.Gen)) }), true
}

// contents is what a disk's sectors are by Read.
func contents(d *disk.Disk) []api.Sector {
	var out []api.Sector
	for i := range d.Len() {
		s, _ := d.Read(i)
		out = append(out, s)
	}
	return out
}

// stable is what of a disk's sectors is STABLE.
func stable(d *disk.Disk) []api.Sector {
	var out []api.Sector
	for i := range d.Len() {
		s, _ := d.Stable(i)
		out = append(out, s)
	}
	return out
}

// diskOf is a disk of these sectors, all STABLE.
func diskOf(l []api.Sector) *disk.Disk {
	d := disk.New(len(l))
	for i, s := range l {
		d.Write(i, s)
	}
	d.Sync()
	return d
}

// marked is a disk on which no sector is as another one, and none begins a record.
func marked(sectors int) *disk.Disk {
	l := make([]api.Sector, sectors)
	for i := range l {
		l[i] = api.Sector{200, 1, byte(i), byte(i >> 8)}
	}
	return diskOf(l)
}

// lay writes sectors from a place on, and Syncs.
func lay(t *testing.T, d *disk.Disk, at int, l []api.Sector) {
	t.Helper()
	for i, s := range l {
		if e := d.Write(at+i, s); e != api.OK {
			t.Fatalf("Write of sector %d = %d", at+i, e)
		}
	}
	if e := d.Sync(); e != api.OK {
		t.Fatalf("Sync = %d", e)
	}
}

// hand lays a checkpoint, RIGHT or not, into the SLOT of its generation.
func hand(t *testing.T, d *disk.Disk, c api.Check) {
	t.Helper()
	lay(t, d, firstOf(c.Gen), sectorsOf(c))
}

func holdRead(t *testing.T, d *disk.Disk, want api.Check) {
	t.Helper()
	if got, ok := slot.Read(d); !ok || !alike(got, want) {
		t.Errorf("Read = %v, %t, not %v", got, ok, want)
	}
}

func holdReadNone(t *testing.T, d *disk.Disk) {
	t.Helper()
	if got, ok := slot.Read(d); ok || !alike(got, api.Check{}) {
		t.Errorf("Read = %v, %t", got, ok)
	}
}

// holdReadWords holds Read against its words, and answers the generation that it told; 0, if none.
func holdReadWords(t *testing.T, d *disk.Disk) uint64 {
	t.Helper()
	want, ok := readOf(contents(d))
	if ok {
		holdRead(t, d, want)
	} else {
		holdReadNone(t, d)
	}
	return want.Gen
}

func write(t *testing.T, d *disk.Disk, c api.Check) {
	t.Helper()
	if e := slot.Write(d, c); e != api.OK {
		t.Fatalf("Write(%v) = %d", c, e)
	}
}

// holdRight holds a checkpoint that is RIGHT on a disk of so many sectors against all the calls.
func holdRight(t *testing.T, sectors int, c api.Check) {
	t.Helper()
	d := disk.New(sectors)
	if !slot.Right(d, c) {
		t.Errorf("%d sectors: %v isn't RIGHT", sectors, c)
	}
	if r, e := slot.Record(d, c); e != api.OK || !sameRecord(r, recordOf(c)) {
		t.Errorf("%d sectors: Record(%v) = %v, %d", sectors, c, r, e)
	}
	want := contents(d)
	copy(want[firstOf(c.Gen):], sectorsOf(c))
	if e := slot.Write(d, c); e != api.OK || !slices.Equal(stable(d), want) {
		t.Errorf("%d sectors: Write(%v) = %d", sectors, c, e)
	}
	holdRead(t, d, c)
}

// holdWrong holds a checkpoint that isn't RIGHT on a disk of so many sectors against all the calls.
func holdWrong(t *testing.T, sectors int, c api.Check) {
	t.Helper()
	d := disk.New(sectors)
	if slot.Right(d, c) {
		t.Errorf("%d sectors: %v is RIGHT", sectors, c)
	}
	if r, e := slot.Record(d, c); e != api.ErrSlot || !sameRecord(r, api.Record{}) {
		t.Errorf("%d sectors: Record(%v) = %v, %d", sectors, c, r, e)
	}
	if e := slot.Write(d, c); e != api.ErrSlot || !slices.Equal(contents(d), make([]api.Sector, d.Len())) {
		t.Errorf("%d sectors: Write(%v) = %d", sectors, c, e)
	}
	holdReadNone(t, d)
	if r := recordOf(c); sectors >= 32 && c.Gen > 0 && len(r.Payload) <= 700 {
		lay(t, d, firstOf(c.Gen), made(r))
		holdReadNone(t, d)
	}
}

// holdCan holds a checkpoint against Right's words, and tells whether it is RIGHT.
func holdCan(t *testing.T, sectors int, c api.Check) bool {
	t.Helper()
	ok := can(sectors, c)
	if ok {
		holdRight(t, sectors, c)
	} else {
		holdWrong(t, sectors, c)
	}
	return ok
}

// disks are numbers of sectors that can be.
func disks() []int { return []int{64, 79, 80, 81, 95, 112, 495, 511, 512} }

// P14.3: the chapter's own example.
func TestExample(t *testing.T) {
	d := disk.New(64)
	write(t, d, check(1, 2))
	write(t, d, check(2, 3))
	holdRead(t, d, check(2, 3))
	d.Break(len(sectorsOf(check(3, 1))))
	if e := slot.Write(d, check(3, 1)); e != api.ErrPower {
		t.Errorf("Write = %d", e)
	}
	d.Crash(nil)
	holdRead(t, d, check(2, 3))
}

// The chapter's sizes are package api's.
func TestSizes(t *testing.T) {
	if uint64(api.MaxValue) != most || uint32(api.MaxEpoch) != mostEpoch || api.SlotSize != 16 || api.SectorSize != 64 || api.LeastSectors != 64 || api.ErrSlot != 141 {
		t.Error(api.MaxValue, api.MaxEpoch, api.SlotSize, api.SectorSize, api.LeastSectors, api.ErrSlot)
	}
}

// P14.1: Gen and Seq from 1 to MaxValue.
func TestRightNumbers(t *testing.T) {
	for n, ok := range map[uint64]bool{
		0: false, 1: true, 2: true, 3: true, 127: true, 128: true, 1 << 31: true, 1 << 32: true, 1<<32 + 1: true, 1 << 47: true,
		most - 1: true, most: true, most + 1: false, most + 2: false, most << 1: false, 1<<63 - 1: false, 1 << 63: false, 1<<63 + 1: false, greatest - 1: false, greatest: false,
	} {
		for _, sectors := range []int{64, 512} {
			gen := changed(check(5, 1), func(c *api.Check) { c.Gen = n })
			seq := changed(check(5, 1), func(c *api.Check) { c.Seq = n })
			both := changed(gen, func(c *api.Check) { c.Seq = n })
			for _, c := range []api.Check{gen, seq, both} {
				if holdCan(t, sectors, c) != ok {
					t.Errorf("%v is held to be RIGHT: %t", c, !ok)
				}
			}
		}
	}
}

// P14.1: Epoch at most MaxEpoch.
func TestRightEpochs(t *testing.T) {
	for n, ok := range map[uint32]bool{
		0: true, 1: true, 2: true, 255: true, 1 << 16: true, mostEpoch - 1: true, mostEpoch: true,
		mostEpoch + 1: false, mostEpoch + 2: false, 3 << 30: false, math.MaxUint32 - 1: false, math.MaxUint32: false,
	} {
		for gen := uint64(1); gen <= 2; gen++ {
			c := changed(check(gen, 2), func(c *api.Check) { c.Epoch = n })
			if holdCan(t, 80, c) != ok {
				t.Errorf("%v is held to be RIGHT: %t", c, !ok)
			}
		}
	}
}

// P14.1: Seg a segment of that disk.
func TestRightSegs(t *testing.T) {
	for _, sectors := range disks() {
		n := segsOf(sectors)
		for _, seg := range []int{math.MinInt, math.MinInt + 1, -1 << 32, -n, -2, -1, 0, 1, 2, n - 2, n - 1, n, n + 1, 2 * n, 30, 31, 127, 128, 1 << 32, 1<<32 + 1, 1 << 48, math.MaxInt - 1, math.MaxInt} {
			c := changed(check(4, 1), func(c *api.Check) { c.Seg = seg })
			if ok := holdCan(t, sectors, c); ok != (seg >= 0 && seg < n) {
				t.Errorf("segment %d of %d is held to be RIGHT: %t", seg, n, ok)
			}
		}
	}
}

// P14.1: a disk that can't be has no segment; one of too many sectors is made of as many as may be.
func TestRightDisks(t *testing.T) {
	for _, sectors := range []int{math.MinInt, -1, 0, 1, 10, 15, 16, 17, 31, 32, 33, 47, 48, 49, 62, 63} {
		for _, seg := range []int{-1, 0, 1, 2} {
			for gen := uint64(1); gen <= 2; gen++ {
				c := changed(check(gen, 0), func(c *api.Check) { c.Seg = seg })
				holdWrong(t, sectors, c)
			}
		}
	}
	for _, sectors := range []int{513, 600, 1 << 20, math.MaxInt} {
		for seg, ok := range map[int]bool{29: true, 30: false} {
			if c := changed(check(3, 1), func(c *api.Check) { c.Seg = seg }); slot.Right(disk.New(sectors), c) != ok {
				t.Errorf("%d sectors, segment %d is held to be RIGHT: %t", sectors, seg, !ok)
			}
		}
	}
}

// wrongBooks are such as aren't RIGHT.
func wrongBooks() []api.Book {
	twice := held(5, 2)
	twice.Entries[1].Policy.Net = twice.Entries[0].Policy.Net
	same := held(5, 2)
	same.Entries[1].Policy.Sub = 1
	falling := held(5, 3)
	slices.Reverse(falling.Entries)
	granted := held(5, 3)
	granted.Entries[2].Granted = most + 1
	policy := held(5, 3)
	policy.Entries[0].Policy.Lease = 1499
	sub := held(5, 1)
	sub.Entries[0].Policy.Sub = 256
	return []api.Book{{}, held(0, 1), held(most+1, 0), held(greatest, 2), held(5, 9), twice, same, falling, granted, policy, sub, {Period: 1, Entries: make([]api.Entry, 1)}}
}

// P14.1: the Book RIGHT.
func TestRightBooks(t *testing.T) {
	for _, b := range wrongBooks() {
		for gen := uint64(1); gen <= 2; gen++ {
			holdWrong(t, 80, changed(check(gen, 0), func(c *api.Check) { c.Book = b }))
		}
	}
	for _, period := range []uint64{1, 2, most - 1, most} {
		for subs := range 9 {
			holdRight(t, 80, changed(check(5, 0), func(c *api.Check) { c.Book = held(period, subs) }))
		}
	}
	holdRight(t, 64, filled(1))
	holdRight(t, 64, filled(2))
	holdWrong(t, 64, api.Check{})
}

// some are checkpoints that are RIGHT on a disk of 80 sectors, no two of them the same.
func some() []api.Check {
	out := []api.Check{
		{Gen: 1, Seq: 1, Book: held(1, 0)}, {Gen: 2, Seq: 1, Book: held(1, 0)}, {Gen: 1, Seq: 2, Book: held(1, 0)},
		{Gen: most, Epoch: mostEpoch, Seq: most, Seg: 2, Book: fullest()}, {Gen: most - 1, Epoch: mostEpoch, Seq: most, Seg: 2, Book: fullest()},
		filled(9), filled(12),
	}
	for subs := range 9 {
		out = append(out, check(20+uint64(subs), subs), check(301, subs))
	}
	return out
}

// wrong are checkpoints that aren't RIGHT on a disk of 80 sectors, by each of their fields, and by all.
func wrong() []api.Check {
	var out []api.Check
	for _, c := range []api.Check{check(5, 0), check(6, 2), filled(7), filled(8)} {
		for _, do := range []func(*api.Check){
			func(c *api.Check) { c.Gen = 0 }, func(c *api.Check) { c.Gen = most + 1 }, func(c *api.Check) { c.Gen = greatest },
			func(c *api.Check) { c.Seq = 0 }, func(c *api.Check) { c.Seq = most + 1 }, func(c *api.Check) { c.Seq = greatest },
			func(c *api.Check) { c.Epoch = mostEpoch + 1 }, func(c *api.Check) { c.Epoch = math.MaxUint32 },
			func(c *api.Check) { c.Seg = -1 }, func(c *api.Check) { c.Seg = 3 }, func(c *api.Check) { c.Seg = math.MaxInt }, func(c *api.Check) { c.Seg = math.MinInt },
		} {
			out = append(out, changed(c, do))
		}
		for _, b := range wrongBooks() {
			out = append(out, changed(c, func(c *api.Check) { c.Book = b }))
		}
	}
	return append(out, api.Check{})
}

// P14.1: Right is asked of the disk's size alone, and is no act.
func TestRightIsNoAct(t *testing.T) {
	for _, down := range []bool{false, true} {
		d := marked(80)
		d.Write(3, api.Sector{9})
		d.Break(0)
		if down {
			d.Sync()
		}
		was := contents(d)
		for _, c := range some() {
			if r, e := slot.Record(d, c); !slot.Right(d, c) || e != api.OK || !sameRecord(r, recordOf(c)) {
				t.Errorf("%v isn't RIGHT on a disk that does no act", c)
			}
		}
		for _, c := range wrong() {
			if _, e := slot.Record(d, c); slot.Right(d, c) || e != api.ErrSlot {
				t.Errorf("%v is RIGHT on a disk that does no act", c)
			}
		}
		if d.Down() != down || !slices.Equal(d.Pending(), []int{3}) || !slices.Equal(contents(d), was) {
			t.Errorf("Down %t, Pending %v", d.Down(), d.Pending())
		}
	}
}

// apart are things done to a checkpoint, each of which makes another one of it.
func apart() []func(*api.Check) {
	out := []func(*api.Check){
		func(c *api.Check) { c.Book.Period++ },
		func(c *api.Check) { c.Book.Entries = c.Book.Entries[:2] },
		func(c *api.Check) { c.Book.Entries = c.Book.Entries[1:] },
		func(c *api.Check) { c.Book.Entries = nil },
		func(c *api.Check) { c.Book.Entries = append(c.Book.Entries, long(200)) },
		func(c *api.Check) { slices.Reverse(c.Book.Entries) },
	}
	for _, n := range []uint64{1, 256, 1 << 32, 1 << 63} {
		out = append(out, func(c *api.Check) { c.Gen += n }, func(c *api.Check) { c.Seq += n }, func(c *api.Check) { c.Seg += int(n) }, func(c *api.Check) { c.Book.Period += n << 1 })
	}
	for _, n := range []uint32{1, 256, 1 << 31} {
		out = append(out, func(c *api.Check) { c.Epoch += n })
	}
	for k := range 3 {
		out = append(out,
			func(c *api.Check) { c.Book.Entries[k].Granted++ }, func(c *api.Check) { c.Book.Entries[k].Policy.Sub += 9 },
			func(c *api.Check) { c.Book.Entries[k].Policy.Net.Bits++ }, func(c *api.Check) { c.Book.Entries[k].Policy.Quantum++ },
		)
	}
	return out
}

func holdSame(t *testing.T, a, b api.Check, want bool) {
	t.Helper()
	if slot.Same(a, b) != want || slot.Same(b, a) != want {
		t.Errorf("Same(%v, %v) = %t", a, b, !want)
	}
}

// P14.1: checkpoints that differ in one field alone, or in two that make up for one another.
func TestSame(t *testing.T) {
	for _, c := range []api.Check{check(5, 3), {Book: api.Book{Entries: make([]api.Entry, 3)}}, {Gen: greatest, Epoch: math.MaxUint32, Seq: greatest, Seg: -1, Book: held(greatest, 3)}} {
		holdSame(t, c, copyOf(c), true)
		for _, do := range apart() {
			other := changed(c, do)
			if !alike(c, other) {
				holdSame(t, c, other, false)
			}
			holdSame(t, other, copyOf(other), true)
		}
	}
	for _, c := range []struct{ a, b api.Check }{
		{api.Check{Gen: 5, Seq: 6}, api.Check{Gen: 6, Seq: 5}},
		{api.Check{Gen: 5, Epoch: 6}, api.Check{Gen: 6, Epoch: 5}},
		{api.Check{Epoch: 5, Seq: 6}, api.Check{Epoch: 6, Seq: 5}},
		{api.Check{Seg: 5, Seq: 6}, api.Check{Seg: 6, Seq: 5}},
		{api.Check{Gen: 5}, api.Check{Book: api.Book{Period: 5}}},
	} {
		holdSame(t, c.a, c.b, false)
	}
	for i, a := range append(some(), wrong()...) {
		for _, b := range append(some(), wrong()...)[i:] {
			holdSame(t, a, b, alike(a, b))
		}
	}
}

// P14.1: a list that is nil and one that is empty are the same.
func TestSameEmptyLists(t *testing.T) {
	for _, c := range []api.Check{{}, check(3, 0)} {
		for _, l := range [][]api.Entry{{}, make([]api.Entry, 0, 3), held(1, 2).Entries[:0]} {
			other := changed(c, func(c *api.Check) { c.Book.Entries = l })
			holdSame(t, c, other, true)
			holdSame(t, other, other, true)
			holdSame(t, other, check(3, 1), false)
			holdSame(t, other, changed(c, func(c *api.Check) { c.Epoch++ }), false)
		}
	}
}

// P14.2: number by number.
func TestRecordNumberByNumber(t *testing.T) {
	p := api.Policy{
		Sub: 255, Net: api.Net{Addr: api.Addr{1, 2, 3, 0}, Bits: 24},
		Rate: 4, Burst: 128, SlowRate: 0, SlowBurst: 6, Quota: 7, Lease: 1500, Quantum: 16384,
	}
	for _, c := range []struct {
		sectors int
		c       api.Check
		want    api.Record
	}{
		{64, api.Check{Gen: 1, Seq: 1, Book: held(1, 0)}, api.Record{Seq: 1, Payload: []byte{1, 0, 1}}},
		{64, api.Check{Gen: 9, Epoch: 3, Seq: 63, Seg: 1, Book: held(7, 0)}, api.Record{Seq: 9, Epoch: 3, Payload: []byte{63, 1, 7}}},
		{512, api.Check{Gen: 128, Epoch: 256, Seq: 300, Seg: 29, Book: held(128, 0)}, api.Record{Seq: 128, Epoch: 256, Payload: []byte{0xac, 2, 29, 0x80, 1}}},
		{80, api.Check{Gen: most, Epoch: mostEpoch, Seq: most, Seg: 2, Book: held(most, 0)},
			api.Record{Seq: most, Epoch: mostEpoch, Payload: []byte{0x80, 0x80, 0x80, 0x80, 0x80, 0x80, 0x40, 2, 0x80, 0x80, 0x80, 0x80, 0x80, 0x80, 0x40}}},
		{64, api.Check{Gen: 4, Epoch: 5, Seq: 6, Seg: 1, Book: api.Book{Period: 8, Entries: []api.Entry{{Policy: p, Granted: 9}}}},
			api.Record{Seq: 4, Epoch: 5, Payload: []byte{6, 1, 8, 0xff, 1, 0x80, 0x86, 0x88, 8, 24, 4, 0x80, 1, 0, 6, 7, 0xdc, 0xb, 0x80, 0x80, 1, 9}}},
	} {
		if r, e := slot.Record(disk.New(c.sectors), c.c); e != api.OK || !sameRecord(r, c.want) {
			t.Errorf("Record(%v) = %v, %d, not %v", c.c, r, e, c.want)
		}
		holdRight(t, c.sectors, c.c)
	}
}

// P14.2: whichever is RIGHT has a record, also the one of the most bytes; others have ErrSlot and the zero record.
func TestRecord(t *testing.T) {
	for _, c := range some() {
		holdRight(t, 80, c)
	}
	for _, c := range wrong() {
		holdWrong(t, 80, c)
	}
	if n := len(sectorsOf(some()[3])); n != 9 || n > 16 {
		t.Errorf("the greatest one has %d sectors", n)
	}
}

// P14.2: the record's sectors, from the first one of the SLOT on; no other sector is touched, and all is STABLE.
func TestWrite(t *testing.T) {
	for _, sectors := range []int{64, 80, 512} {
		for _, c := range append(some(), check(2, 1), check(3, 1)) {
			if !can(sectors, c) {
				continue
			}
			d := marked(sectors)
			want := contents(d)
			copy(want[firstOf(c.Gen):], sectorsOf(c))
			write(t, d, c)
			if !slices.Equal(stable(d), want) || len(d.Pending()) != 0 || d.Down() {
				t.Errorf("Write(%v) leaves another disk; Pending %v", c, d.Pending())
			}
			d.Crash(nil)
			holdRead(t, d, c)
		}
	}
}

// P14.2: each generation in its own SLOT, the other one untouched.
func TestWriteByTurns(t *testing.T) {
	d := marked(80)
	want := contents(d)
	for gen := uint64(1); gen <= 40; gen++ {
		c := check(gen, int(gen*5%9))
		copy(want[int(1-(gen+1)%2)*16:], sectorsOf(c))
		write(t, d, c)
		if !slices.Equal(stable(d), want) {
			t.Fatalf("generation %d: another disk", gen)
		}
		holdRead(t, d, c)
	}
	// An elder generation may be written too: what Read tells is the greater one.
	write(t, d, check(1, 8))
	holdRead(t, d, check(40, 40*5%9))
	write(t, d, check(2, 8))
	holdRead(t, d, check(2, 8))
}

// P14.2: the disk's Sync makes all STABLE that was PENDING before.
func TestWriteSyncsAll(t *testing.T) {
	d := marked(80)
	lay := []api.Sector{{1, 2}, {3, 4}}
	d.Write(70, lay[0])
	d.Write(31, lay[1])
	write(t, d, check(5, 1))
	if l := stable(d); l[70] != lay[0] || l[31] != lay[1] || len(d.Pending()) != 0 {
		t.Errorf("Pending %v", d.Pending())
	}
}

// P14.2: ErrSlot, and the disk as it was, acts LEFT and all; also where the disk would answer an error.
func TestWriteWrong(t *testing.T) {
	for _, c := range wrong() {
		for _, acts := range []int{-1, 0, 1, 20} {
			d := marked(80)
			d.Write(3, api.Sector{9})
			d.Break(acts)
			was := contents(d)
			if e := slot.Write(d, c); e != api.ErrSlot {
				t.Errorf("Write(%v) = %d", c, e)
			}
			if d.Down() || !slices.Equal(d.Pending(), []int{3}) || !slices.Equal(contents(d), was) {
				t.Errorf("Write(%v): Down %t, Pending %v", c, d.Down(), d.Pending())
			}
			for n := range max(acts, 0) {
				if e := d.Write(40, api.Sector{}); e != api.OK {
					t.Errorf("Write(%v) took an act of %d: %d is %d", c, acts, n, e)
				}
			}
			if e := d.Sync(); (e == api.OK) != (acts < 0) {
				t.Errorf("Write(%v) of %d acts: Sync = %d", c, acts, e)
			}
			if e := slot.Write(d, c); e != api.ErrSlot {
				t.Errorf("Write(%v) = %d on a disk that is DOWN: %t", c, e, d.Down())
			}
		}
	}
}

// P14.2: the disk breaks at each of the acts: its error is the answer, and what was written ahead of it is PENDING.
func TestWriteOnDiskThatGoesDown(t *testing.T) {
	for _, c := range some() {
		l := sectorsOf(c)
		for acts := range len(l) + 1 {
			d := marked(80)
			d.Write(75, api.Sector{5})
			want := contents(d)
			pending := []int{75}
			for i, s := range l[:acts] {
				want[firstOf(c.Gen)+i] = s
				pending = append(pending, firstOf(c.Gen)+i)
			}
			d.Break(acts)
			if e := slot.Write(d, c); e != api.ErrPower {
				t.Errorf("Write(%v) with %d acts = %d", c, acts, e)
			}
			if !d.Down() || !slices.Equal(d.Pending(), pending) || !slices.Equal(contents(d), want) || !slices.Equal(stable(d), contents(marked(80))) {
				t.Errorf("Write(%v) with %d acts: Down %t, Pending %v, not %v", c, acts, d.Down(), d.Pending(), pending)
			}
			if e := slot.Write(d, c); e != api.ErrPower || !slices.Equal(d.Pending(), pending) {
				t.Errorf("Write(%v) on a disk that is DOWN = %d, Pending %v", c, e, d.Pending())
			}
		}
		d := marked(80)
		d.Break(len(l) + 1)
		if e := slot.Write(d, c); e != api.OK || d.Down() || len(d.Pending()) != 0 {
			t.Errorf("Write(%v) with the acts it needs = %d, Down %t", c, e, d.Down())
		}
		if e := d.Sync(); e != api.ErrPower {
			t.Errorf("Write(%v) left an act", c)
		}
	}
}

// P14.3
func TestReadOfNothing(t *testing.T) {
	for _, sectors := range append(disks(), -1, 0, 1, 10, 15, 16, 17, 31, 32, 33, 63) {
		holdReadNone(t, disk.New(sectors))
		if sectors >= 0 {
			holdReadNone(t, marked(sectors))
		}
	}
}

// P14.3: one, or two, whose greater Gen lies in the first and in the second SLOT.
func TestRead(t *testing.T) {
	gens := []uint64{1, 2, 3, 4, 9, 10, 127, 128, 255, 256, 257, 1<<32 - 1, 1 << 32, 1<<32 + 1, 1<<32 + 2, most - 1, most}
	first, second := 0, 0
	for _, a := range gens {
		d := disk.New(80)
		write(t, d, check(a, 3))
		holdRead(t, d, check(a, 3))
		for _, b := range gens {
			if a%2 == b%2 {
				continue
			}
			d := disk.New(80)
			write(t, d, check(a, 3))
			write(t, d, check(b, 2))
			if a > b {
				holdRead(t, d, check(a, 3))
			} else {
				holdRead(t, d, check(b, 2))
			}
			if max(a, b)%2 == 0 {
				first++
			} else {
				second++
			}
		}
	}
	if first < 20 || second < 20 {
		t.Errorf("%d and %d are too few", first, second)
	}
}

// P14.3: by Gen, whatever else is greater in the other one.
func TestReadByGenAlone(t *testing.T) {
	for gen := uint64(4); gen <= 5; gen++ {
		young := api.Check{Gen: gen, Seq: 1, Book: held(1, 0)}
		for _, elder := range []api.Check{
			{Gen: gen - 1, Epoch: mostEpoch, Seq: most, Seg: 2, Book: fullest()},
			{Gen: gen - 3, Epoch: mostEpoch, Seq: most, Seg: 2, Book: fullest()},
		} {
			for _, l := range [][]api.Check{{young, elder}, {elder, young}} {
				d := disk.New(80)
				write(t, d, l[0])
				write(t, d, l[1])
				holdRead(t, d, young)
			}
		}
	}
}

// P14.3: a record whose Gen belongs to the other SLOT doesn't count.
func TestReadOfOtherSlot(t *testing.T) {
	for gen := uint64(5); gen <= 6; gen++ {
		d := disk.New(80)
		lay(t, d, 16-firstOf(gen), sectorsOf(check(gen, 3)))
		holdReadNone(t, d)
		hand(t, d, check(gen-2, 1))
		holdRead(t, d, check(gen-2, 1))
		hand(t, d, check(gen, 2))
		holdRead(t, d, check(gen, 2))
		// In both SLOTS, but each in the other's.
		lay(t, d, firstOf(gen), sectorsOf(check(gen+1, 3)))
		holdReadNone(t, d)
	}
}

// P14.3: the SLOT's sectors begin with the record, and it ends within the SLOT.
func TestReadWhereSlotsBegin(t *testing.T) {
	for at := range 60 {
		for gen := uint64(1); gen <= 2; gen++ {
			d := disk.New(80)
			lay(t, d, at, sectorsOf(check(gen, 3)))
			if at == firstOf(gen) {
				holdRead(t, d, check(gen, 3))
			} else {
				holdReadNone(t, d)
			}
		}
	}
}

// P14.3: what is behind the record in its SLOT is all the same.
func TestReadBehindRecord(t *testing.T) {
	for _, c := range some() {
		d := marked(80)
		hand(t, d, filled(c.Gen))
		hand(t, d, c)
		holdRead(t, d, c)
		lay(t, d, firstOf(c.Gen)+len(sectorsOf(c)), sectorsOf(c))
		holdRead(t, d, c)
	}
}

// P14.3: a sector with a bit turned: the other SLOT's is told, or none.
func TestReadOfTurnedBits(t *testing.T) {
	for _, c := range []api.Check{check(5, 0), check(6, 1), check(6, 8), filled(7)} {
		l := sectorsOf(c)
		alone, beside := disk.New(80), disk.New(80)
		write(t, beside, check(c.Gen-1, 2))
		for bit := range len(l) * 64 * 8 {
			turned := slices.Clone(l)
			turned[bit/512][bit/8%64] ^= 1 << (bit % 8)
			place, s := firstOf(c.Gen)+bit/512, turned[bit/512]
			for _, d := range []*disk.Disk{alone, beside} {
				hand(t, d, c)
				lay(t, d, place, []api.Sector{s})
			}
			holdReadNone(t, alone)
			holdRead(t, beside, check(c.Gen-1, 2))
		}
	}
}

// P14.3: a sector more or less, or another one's.
func TestReadOfLostSectors(t *testing.T) {
	for gen := uint64(8); gen <= 9; gen++ {
		elder, young := filled(gen-2), changed(filled(gen), func(c *api.Check) { c.Book.Period-- })
		for i := range sectorsOf(young) {
			d := disk.New(80)
			write(t, d, check(gen-1, 8))
			write(t, d, young)
			lay(t, d, firstOf(gen)+i, make([]api.Sector, 1))
			holdRead(t, d, check(gen-1, 8))
			write(t, d, young)
			lay(t, d, firstOf(gen)+i, sectorsOf(elder)[i:i+1])
			if holdReadWords(t, d) != gen-1 && sectorsOf(elder)[i] != sectorsOf(young)[i] {
				t.Errorf("sector %d of another generation: it counts", i)
			}
		}
	}
}

// holdReadBeside lays a record into its SLOT, alone and beside the generation before, and holds what is told of it against Read's words.
func holdReadBeside(t *testing.T, sectors int, r api.Record) bool {
	t.Helper()
	d := disk.New(sectors)
	lay(t, d, firstOf(r.Seq), made(r))
	gen := holdReadWords(t, d)
	before := check(1+r.Seq%2, 2)
	write(t, d, before)
	holdReadWords(t, d)
	if gen == 0 {
		holdRead(t, d, before)
	}
	return gen != 0
}

// P14.3: records whose numbers or Book aren't those of a checkpoint that is RIGHT.
func TestReadOfWrongChecks(t *testing.T) {
	for _, c := range wrong() {
		r := recordOf(c)
		if r.Seq > 0 && len(r.Payload) <= 700 && holdReadBeside(t, 80, r) {
			t.Errorf("%v counts", c)
		}
	}
	for _, c := range some() {
		if !holdReadBeside(t, 80, recordOf(c)) {
			t.Errorf("%v doesn't count", c)
		}
	}
}

// P14.3: another number at each place.
func TestReadOfOtherNumbers(t *testing.T) {
	for _, c := range []api.Check{check(5, 0), check(6, 1), check(8, 3), filled(9)} {
		met := map[bool]int{}
		for k, was := range numsOf(c) {
			for _, n := range []uint64{
				0, 1, 2, 3, 16, 32, 33, 255, 256, 1499, 1500, 1 << 32, 1<<32 + 1, most - 1, most, most + 1, 1<<63 - 1, 1 << 63, 1<<63 + 1, greatest,
				was + 1, was - 1, was + 256, was + 1<<32, was + 1<<63,
			} {
				l := numsOf(c)
				l[k] = n
				met[holdReadBeside(t, 80, api.Record{Seq: c.Gen, Epoch: c.Epoch, Payload: bytesOf(l...)})]++
			}
			for _, n := range []uint64{most + 1, 1 << 63, 1<<63 + was, greatest} {
				l := numsOf(c)
				l[k] = n
				if holdReadBeside(t, 80, api.Record{Seq: c.Gen, Epoch: c.Epoch, Payload: bytesOf(l...)}) {
					t.Errorf("%d at %d of %v counts", n, k, c)
				}
			}
		}
		if met[true] == 0 || met[false] == 0 {
			t.Errorf("%v: %v", c, met)
		}
	}
}

// P14.3: payloads that are cut off, or have bytes ahead of the Book's or behind.
func TestReadOfOtherPayloads(t *testing.T) {
	for _, c := range append(some(), check(31, 2), check(32, 2)) {
		r := recordOf(c)
		own := r.Payload
		met := 0
		for n := range own {
			r.Payload = own[:n]
			if holdReadBeside(t, 80, r) {
				met++
			}
		}
		// Cut off behind an Entry, they are those of a book with fewer.
		if met != len(c.Book.Entries) {
			t.Errorf("%v: %d counted", c, met)
		}
		for _, more := range [][]byte{{0}, {1}, {63}, {127}, {0x80}, {0x80, 0}, {0x80, 1}, {0xff}, {1, 1}, bytes.Repeat([]byte{1}, 11), make([]byte, 40)} {
			r.Payload = slices.Concat(own, more)
			if holdReadBeside(t, 80, r) {
				t.Errorf("%v counts with % x behind", c, more)
			}
			r.Payload = slices.Concat(more, own)
			holdReadBeside(t, 80, r)
		}
	}
}

// P14.3: numbers as layer 2 doesn't write them.
func TestReadOfOtherSpellings(t *testing.T) {
	for _, c := range []api.Check{check(5, 0), check(6, 1), filled(7)} {
		l := numsOf(c)
		for k, n := range l {
			longer := spelt(n)
			longer[len(longer)-1] |= 0x80
			for _, as := range [][]byte{
				append(slices.Clone(longer), 0), append(slices.Clone(longer), 0x80, 0), longer, {}, append(bytes.Repeat([]byte{0x80}, 9), 2), append(bytes.Repeat([]byte{0x80}, 10), 1),
			} {
				p := slices.Concat(bytesOf(l[:k]...), as, bytesOf(l[k+1:]...))
				if holdReadBeside(t, 80, api.Record{Seq: c.Gen, Epoch: c.Epoch, Payload: p}) {
					t.Errorf("% x at %d of %v counts", as, k, c)
				}
			}
		}
	}
}

// P14.3: on another disk the same sectors tell a checkpoint, or none, as Seg is one of its segments.
func TestReadOnOtherDisks(t *testing.T) {
	for _, sectors := range disks() {
		for seg := range 40 {
			c := changed(check(6, 1), func(c *api.Check) { c.Seg = seg })
			if ok := holdReadBeside(t, sectors, recordOf(c)); ok != (seg < segsOf(sectors)) {
				t.Errorf("%d sectors, segment %d counts: %t", sectors, seg, ok)
			}
		}
	}
	for sectors := 10; sectors < 64; sectors++ {
		d := disk.New(sectors)
		lay(t, d, 0, sectorsOf(check(6, 1)))
		holdReadNone(t, d)
	}
}

// P14.3: what is read is layer 7's Read: PENDING writes count, also on a disk that is DOWN.
func TestReadOfPending(t *testing.T) {
	d := disk.New(80)
	write(t, d, check(1, 3))
	for i, s := range sectorsOf(check(2, 3)) {
		holdRead(t, d, check(1, 3))
		d.Write(i, s)
	}
	holdRead(t, d, check(2, 3))
	d.Write(16, api.Sector{})
	d.Write(0, api.Sector{})
	holdReadNone(t, d)
	d.Break(0)
	d.Sync()
	holdReadNone(t, d)
	d.Crash([]bool{true, true, true, true, true, true, true}[:len(sectorsOf(check(2, 3)))])
	holdRead(t, d, check(2, 3))
}

// P14.3: Read is no act, and changes nothing.
func TestReadChangesNothing(t *testing.T) {
	for _, down := range []bool{false, true} {
		d := disk.New(80)
		write(t, d, check(1, 3))
		for i, s := range sectorsOf(check(2, 3)) {
			d.Write(i, s)
		}
		was, pending := contents(d), d.Pending()
		d.Break(0)
		if down {
			d.Sync()
		}
		for range 3 {
			holdRead(t, d, check(2, 3))
		}
		if d.Down() != down || !slices.Equal(d.Pending(), pending) || !slices.Equal(contents(d), was) {
			t.Errorf("Down %t, Pending %v", d.Down(), d.Pending())
		}
		d.Crash(nil)
		holdRead(t, d, check(1, 3))
	}
}

// keeps are all choices of so many writes.
func keeps(writes int) [][]bool {
	var out [][]bool
	for n := range 1 << writes {
		keep := make([]bool, writes)
		for i := range keep {
			keep[i] = n>>i&1 == 1
		}
		out = append(out, keep)
	}
	return out
}

// holdCrash: behind a crash one of both is told, as it was: the one that was written, if none of its writes was lost.
func holdCrash(t *testing.T, d *disk.Disk, old, young api.Check, whole bool) {
	t.Helper()
	got, ok := slot.Read(d)
	if whole || ok && alike(got, young) {
		holdRead(t, d, young)
	} else if old.Gen == 0 {
		holdReadNone(t, d)
	} else {
		holdRead(t, d, old)
	}
	holdReadWords(t, d)
}

// crashes plays a Write of the next generation on a disk with these checkpoints, that breaks at each of its acts and then loses all choices of what isn't Synced.
func crashes(t *testing.T, there []api.Check, young api.Check) {
	t.Helper()
	d := disk.New(80)
	for _, c := range there {
		write(t, d, c)
	}
	old, _ := slot.Read(d)
	before := contents(d)
	size := len(sectorsOf(young))
	for acts := range size + 1 {
		for _, keep := range keeps(acts) {
			d := diskOf(before)
			d.Break(acts)
			if e := slot.Write(d, young); e != api.ErrPower {
				t.Fatalf("Write with %d acts = %d", acts, e)
			}
			d.Crash(keep)
			holdCrash(t, d, old, young, acts == size && !slices.Contains(keep, false))
			if !slices.Equal(contents(d)[16-firstOf(young.Gen):][:16], before[16-firstOf(young.Gen):][:16]) {
				t.Fatalf("the other SLOT isn't as it was")
			}
		}
	}
	d.Break(size + 1)
	write(t, d, young)
	d.Crash(nil)
	holdRead(t, d, young)
}

// P14.4: on a new disk, behind one generation, and behind two, whose records are longer and shorter.
func TestCrash(t *testing.T) {
	none := []api.Check{}
	for _, young := range []api.Check{check(1, 0), check(1, 3), filled(1), check(2, 2)} {
		crashes(t, none, young)
	}
	for _, size := range []int{0, 2, 8} {
		crashes(t, []api.Check{check(1, size)}, check(2, 4))
		crashes(t, []api.Check{check(6, size)}, check(7, 4))
		crashes(t, []api.Check{check(1, size), check(2, 3)}, check(3, 4))
		crashes(t, []api.Check{check(8, 3), check(9, size)}, check(10, 4))
		crashes(t, []api.Check{check(5, size), check(6, 8-size), check(7, 8)}, check(8, 2))
	}
	crashes(t, []api.Check{filled(1), filled(2)}, filled(3))
	crashes(t, []api.Check{filled(most - 2), check(most-1, 3)}, filled(most))
}

// P14.4: what of the young generation's record is the same as in the one that lay there before needn't be written to be there.
func TestCrashOfLikeGenerations(t *testing.T) {
	for gen := uint64(3); gen <= 4; gen++ {
		elder, old, young := filled(gen-2), filled(gen-1), filled(gen)
		old.Book.Entries[0].Granted--
		young.Book.Entries[7].Granted--
		crashes(t, []api.Check{elder, old}, young)
		crashes(t, []api.Check{old}, changed(old, func(c *api.Check) { c.Gen = gen }))
	}
}

// P14.4: other writes that were PENDING are Synced with the Write's, or are lost as well.
func TestCrashWithOtherWrites(t *testing.T) {
	young := check(6, 1)
	size := len(sectorsOf(young))
	for acts := range size + 1 {
		for _, keep := range keeps(acts + 2) {
			d := disk.New(80)
			write(t, d, check(4, 2))
			write(t, d, check(5, 2))
			d.Write(32, api.Sector{1})
			d.Write(79, api.Sector{2})
			d.Break(acts)
			slot.Write(d, young)
			d.Crash(keep)
			holdCrash(t, d, check(5, 2), young, acts == size && !slices.Contains(keep[2:], false))
		}
	}
}

// P14.4: many generations, of which each is tried till it is written; as each try of one writes the same, what an elder try left there tells no other one.
func TestCrashesAndTries(t *testing.T) {
	from := rand.New(rand.NewSource(14))
	d := disk.New(80)
	var old api.Check
	tries := 0
	for gen := uint64(1); gen <= 300; gen++ {
		young := check(gen, from.Intn(9))
		for written := false; !written; {
			if tries == 3000 {
				t.Fatal("no Write comes to its end")
			}
			d.Break(from.Intn(12) - 1)
			e := slot.Write(d, young)
			var keep []bool
			for range d.Pending() {
				keep = append(keep, from.Intn(4) > 0)
			}
			d.Crash(keep)
			holdCrash(t, d, old, young, e == api.OK)
			written = e == api.OK
			tries++
		}
		old = young
	}
	if tries < 400 {
		t.Errorf("%d tries are too few", tries)
	}
}

// roomy is a checkpoint whose list has spare room, with something in it.
func roomy(c api.Check) api.Check {
	c.Book.Entries = append(slices.Clone(c.Book.Entries), long(251), api.Entry{Granted: 5})[:len(c.Book.Entries)]
	return c
}

// whole is a checkpoint with its list's spare room.
func whole(c api.Check) api.Check {
	c.Book.Entries = c.Book.Entries[:cap(c.Book.Entries)]
	return c
}

// spoil writes over all that a checkpoint's list holds.
func spoil(c api.Check) {
	for i := range whole(c).Book.Entries {
		whole(c).Book.Entries[i] = api.Entry{Policy: sold(-9), Granted: 9}
	}
}

func spoilBytes(b []byte) {
	b = b[:cap(b)]
	for i := range b {
		b[i] = 0xee
	}
}

// P14.1, P14.2: what is handed in isn't changed, spare room included, and a later change of it is to be seen nowhere.
func TestHandedIn(t *testing.T) {
	for _, c := range append(some(), wrong()...) {
		r := roomy(c)
		was := copyOf(whole(r))
		d := disk.New(80)
		right := slot.Right(d, r)
		record, e := slot.Record(d, r)
		same := slot.Same(r, c) && slot.Same(c, r)
		if written := slot.Write(d, r); written != e || right != (e == api.OK) || !same {
			t.Errorf("Write(%v) = %d, and Record's %d", c, written, e)
		}
		if !reflect.DeepEqual(whole(r), was) {
			t.Errorf("%v became %v", was, whole(r))
		}
		spoil(r)
		if !right {
			continue
		}
		if !sameRecord(record, recordOf(c)) {
			t.Errorf("the record of %v became %v", c, record)
		}
		holdRead(t, d, c)
		d.Crash(nil)
		holdRead(t, d, c)
	}
}

// P14.2, P14.3: what is answered shares nothing with what was handed in, with the disk, or with another answer.
func TestHandedOut(t *testing.T) {
	for _, c := range some() {
		d := disk.New(80)
		in := roomy(c)
		was := copyOf(whole(in))
		first, _ := slot.Record(d, in)
		second, _ := slot.Record(d, in)
		spoilBytes(first.Payload)
		if !reflect.DeepEqual(whole(in), was) || !sameRecord(second, recordOf(c)) {
			t.Errorf("%v behind a change of its record", whole(in))
		}
		write(t, d, c)
		one, _ := slot.Read(d)
		other, _ := slot.Read(d)
		spoil(one)
		if !alike(other, c) {
			t.Errorf("%v became %v", c, other)
		}
		holdRead(t, d, c)
	}
}

// P14.2: two disks don't know of one another.
func TestTwoDisks(t *testing.T) {
	a, b := disk.New(80), disk.New(64)
	write(t, a, check(5, 3))
	holdReadNone(t, b)
	write(t, b, check(2, 1))
	write(t, a, check(6, 2))
	holdRead(t, a, check(6, 2))
	holdRead(t, b, check(2, 1))
}

func pick[T any](from *rand.Rand, l ...T) T { return l[from.Intn(len(l))] }

// anyCheck is one that is RIGHT most of the time.
func anyCheck(from *rand.Rand) api.Check {
	c := check(uint64(1+from.Intn(30)), from.Intn(9))
	switch from.Intn(12) {
	case 0:
		c.Gen = pick(from, 0, 1, most, most+1, greatest)
	case 1:
		c.Seq = pick(from, 0, 1, most, most+1, greatest)
	case 2:
		c.Epoch = pick(from, 0, mostEpoch, mostEpoch+1, math.MaxUint32)
	case 3:
		c.Seg = pick(from, -1, 0, 1, 2, 3, 29, 30)
	case 4:
		c.Book = pick(from, append(wrongBooks(), fullest())...)
	}
	return c
}

// P14.1 to P14.3: whatever comes behind one another.
func TestAgainstWords(t *testing.T) {
	from := rand.New(rand.NewSource(142))
	met := map[api.Errno]int{}
	told := map[bool]int{}
	for range 60 {
		d := disk.New(pick(from, disks()...))
		for range 80 {
			c := anyCheck(from)
			switch n := from.Intn(10); {
			case n < 5:
				want := contents(d)
				ok := can(d.Len(), c)
				if ok {
					copy(want[firstOf(c.Gen):], sectorsOf(c))
				}
				e := slot.Write(d, c)
				met[e]++
				if (e == api.ErrSlot) == ok || e != api.ErrPower && !slices.Equal(contents(d), want) {
					t.Errorf("%d sectors: Write(%v) = %d", d.Len(), c, e)
				}
			case n == 5:
				d.Break(from.Intn(12) - 1)
			case n == 6:
				d.Crash([]bool{from.Intn(2) == 0, from.Intn(2) == 0, true, from.Intn(2) == 0, true, true, true, true, true})
			case n == 7:
				s, _ := d.Read(16 * from.Intn(2))
				s[from.Intn(64)] ^= 1 << from.Intn(8)
				d.Write(16*from.Intn(2), s)
			case n == 8 && c.Gen > 0 && len(recordOf(c).Payload) <= 700:
				for i, s := range sectorsOf(c) {
					d.Write(16*from.Intn(2)+i, s)
				}
			case n == 9 && c.Gen > 0 && len(recordOf(c).Payload) <= 700:
				for i, s := range sectorsOf(c) {
					d.Write(firstOf(c.Gen)+i, s)
				}
			}
			told[holdReadWords(t, d) > 0]++
		}
	}
	if met[api.OK] < 200 || met[api.ErrSlot] < 200 || met[api.ErrPower] < 200 || len(met) != 3 || told[true] < 500 || told[false] < 500 {
		t.Errorf("%v and %v are too few", met, told)
	}
}
