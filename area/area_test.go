package area_test

import (
	"math"
	"slices"
	"testing"

	"floodgate/api"
	"floodgate/area"
)

// Here the sizes stand as the chapter writes them, not as package api does: two SLOTS of 16 sectors, SEGMENTS of 16, 64 to 512 sectors.

// firsts are the first sectors of a disk's SEGMENTS by their words: behind the SLOTS, as long as there is room for a whole one; none, if the disk can't be.
func firsts(sectors int) []int {
	var out []int
	if sectors < 64 || sectors > 512 {
		return nil
	}
	for at := 32; at+16 <= sectors; at += 16 {
		out = append(out, at)
	}
	return out
}

// nextOf is Next by its words, of a SEGMENT that is there.
func nextOf(sectors, k int) int {
	if k == len(firsts(sectors))-1 {
		return 0
	}
	return k + 1
}

// usedOf is Used by its words, of SEGMENTS that are there: they are gone through and counted.
func usedOf(sectors, from, to int) int {
	n := 1
	for k := from; k != to; k = nextOf(sectors, k) {
		n++
	}
	return n
}

// wrongDisks are numbers of sectors that no disk has.
func wrongDisks() []int {
	return []int{
		math.MinInt, math.MinInt + 1, math.MinInt + 32, math.MinInt + 64, math.MinInt32, -512, -64, -33, -32, -1, 0, 1, 15, 16, 31, 32, 33, 47, 48, 62, 63,
		513, 514, 527, 528, 1024, math.MaxInt32, math.MaxInt32 + 65, 1<<32 + 64, 1<<32 + 512, math.MaxInt - 32, math.MaxInt - 1, math.MaxInt,
	}
}

// wrongSegs are numbers that no SEGMENT has, on a disk of so many sectors.
func wrongSegs(sectors int) []int {
	n := len(firsts(sectors))
	return []int{
		math.MinInt, math.MinInt + 1, math.MinInt32, -n - 1, -n, -2, -1,
		n, n + 1, 2 * n, 2*n + 1, 32, 512, math.MaxInt32, 1 << 32, 1<<32 + 1, 1 << 60, 1<<60 - 2, math.MaxInt - 1, math.MaxInt,
	}
}

// anySegs are numbers of SEGMENTS that there could be, and of such that there couldn't.
func anySegs() []int {
	return append(wrongSegs(64), 0, 1, 2, 28, 29, 30)
}

func hold(t *testing.T, call string, args []int, got int, e api.Errno, want int) {
	t.Helper()
	if got != want || e != api.OK {
		t.Errorf("%s%v = %d, %d, not %d, 0", call, args, got, e, want)
	}
}

func holdNone(t *testing.T, call string, args []int, got int, e api.Errno) {
	t.Helper()
	if got != 0 || e != api.ErrArea {
		t.Errorf("%s%v = %d, %d, not 0, 91", call, args, got, e)
	}
}

// The chapter's sizes are package api's.
func TestSizes(t *testing.T) {
	if api.LeastSectors != 64 || api.MaxSectors != 512 || api.SlotSize != 16 || api.SegSize != 16 || api.ErrArea != 91 {
		t.Error(api.LeastSectors, api.MaxSectors, api.SlotSize, api.SegSize, api.ErrArea)
	}
}

// P9.1: the chapter's own example.
func TestExample(t *testing.T) {
	n, e := area.Segs(64)
	hold(t, "Segs", []int{64}, n, e, 2)
	n, e = area.Seg(64, 0)
	hold(t, "Seg", []int{64, 0}, n, e, 32)
	n, e = area.Seg(64, 1)
	hold(t, "Seg", []int{64, 1}, n, e, 48)
	n, e = area.Seg(64, 2)
	holdNone(t, "Seg", []int{64, 2}, n, e)
}

// P9.1
func TestSegs(t *testing.T) {
	for _, c := range []struct{ sectors, segs int }{
		{64, 2}, {65, 2}, {78, 2}, {79, 2}, {80, 3}, {81, 3}, {95, 3}, {96, 4}, {97, 4}, {256, 14},
		{495, 28}, {496, 29}, {511, 29}, {512, 30},
	} {
		n, e := area.Segs(c.sectors)
		hold(t, "Segs", []int{c.sectors}, n, e, c.segs)
	}
	for s := 64; s <= 512; s++ {
		n, e := area.Segs(s)
		hold(t, "Segs", []int{s}, n, e, len(firsts(s)))
	}
}

// P9.1
func TestSegsOfNoDisk(t *testing.T) {
	for _, s := range wrongDisks() {
		n, e := area.Segs(s)
		holdNone(t, "Segs", []int{s}, n, e)
	}
	for s := -1000; s < 64; s++ {
		n, e := area.Segs(s)
		holdNone(t, "Segs", []int{s}, n, e)
	}
	for s := 513; s < 2000; s++ {
		n, e := area.Segs(s)
		holdNone(t, "Segs", []int{s}, n, e)
	}
}

// P9.1
func TestSlot(t *testing.T) {
	for gen, want := range map[uint64]int{
		0: 0, 1: 16, 2: 0, 3: 16, 4: 0, 5: 16, 15: 16, 16: 0, 255: 16, 256: 0,
		1<<31 - 1: 16, 1 << 31: 0, 1 << 32: 0, 1<<32 + 1: 16, 281474976710656: 0, 281474976710655: 16,
		1<<63 - 2: 0, 1<<63 - 1: 16, 1 << 63: 0, 1<<63 + 1: 16, math.MaxUint64 - 1: 0, math.MaxUint64: 16,
	} {
		if at := area.Slot(gen); at != want {
			t.Errorf("Slot(%d) = %d, not %d", gen, at, want)
		}
	}
	for shift := range 63 {
		gen := uint64(2) << shift
		if even, odd := area.Slot(gen), area.Slot(gen+1); even != 0 || odd != 16 {
			t.Errorf("Slot of %d and one more = %d, %d, not 0, 16", gen, even, odd)
		}
	}
}

// P9.1: generations come in both SLOTS by turns.
func TestSlotByTurns(t *testing.T) {
	for gen := range uint64(1000) {
		if area.Slot(gen)+area.Slot(gen+1) != 16 || area.Slot(gen) != area.Slot(gen+2) {
			t.Errorf("Slot of %d: %d, %d, %d", gen, area.Slot(gen), area.Slot(gen+1), area.Slot(gen+2))
		}
	}
}

// P9.1
func TestSeg(t *testing.T) {
	for _, c := range []struct{ sectors, k, at int }{
		{64, 0, 32}, {64, 1, 48}, {79, 0, 32}, {79, 1, 48}, {80, 1, 48}, {80, 2, 64}, {95, 2, 64}, {96, 3, 80},
		{511, 0, 32}, {511, 28, 480}, {512, 0, 32}, {512, 1, 48}, {512, 28, 480}, {512, 29, 496},
	} {
		at, e := area.Seg(c.sectors, c.k)
		hold(t, "Seg", []int{c.sectors, c.k}, at, e, c.at)
	}
	for s := 64; s <= 512; s++ {
		for k, want := range firsts(s) {
			at, e := area.Seg(s, k)
			hold(t, "Seg", []int{s, k}, at, e, want)
		}
	}
}

// P9.1
func TestNext(t *testing.T) {
	for _, c := range []struct{ sectors, k, next int }{
		{64, 0, 1}, {64, 1, 0}, {79, 1, 0}, {80, 0, 1}, {80, 1, 2}, {80, 2, 0}, {95, 2, 0}, {96, 2, 3}, {96, 3, 0},
		{511, 27, 28}, {511, 28, 0}, {512, 28, 29}, {512, 29, 0}, {512, 0, 1},
	} {
		k, e := area.Next(c.sectors, c.k)
		hold(t, "Next", []int{c.sectors, c.k}, k, e, c.next)
	}
	for s := 64; s <= 512; s++ {
		for k := range firsts(s) {
			next, e := area.Next(s, k)
			hold(t, "Next", []int{s, k}, next, e, nextOf(s, k))
		}
	}
}

// P9.1: by as many steps as there are SEGMENTS one comes by each of them, and back to where one began.
func TestNextRound(t *testing.T) {
	for s := 64; s <= 512; s++ {
		n, _ := area.Segs(s)
		if n < 2 {
			t.Fatalf("Segs(%d) = %d", s, n)
		}
		for from := range n {
			k, seen := from, map[int]int{}
			for range n {
				seen[k]++
				next, e := area.Next(s, k)
				if e != api.OK || next == k {
					t.Fatalf("Next(%d, %d) = %d, %d", s, k, next, e)
				}
				k = next
			}
			if k != from || len(seen) != n {
				t.Errorf("%d sectors: %d steps from %d lead to %d, by %d SEGMENTS", s, n, from, k, len(seen))
			}
		}
	}
}

// P9.1
func TestUsed(t *testing.T) {
	for _, c := range []struct{ sectors, from, to, used int }{
		{64, 0, 0, 1}, {64, 0, 1, 2}, {64, 1, 0, 2}, {64, 1, 1, 1},
		{79, 1, 0, 2}, {80, 0, 2, 3}, {80, 2, 0, 2}, {80, 1, 0, 3}, {80, 2, 1, 3}, {80, 1, 2, 2}, {95, 2, 2, 1},
		{96, 0, 3, 4}, {96, 3, 0, 2}, {96, 3, 2, 4}, {511, 0, 28, 29}, {511, 28, 0, 2},
		{512, 0, 29, 30}, {512, 29, 0, 2}, {512, 29, 29, 1}, {512, 29, 28, 30}, {512, 0, 0, 1}, {512, 5, 4, 30}, {512, 4, 5, 2}, {512, 20, 10, 21},
	} {
		n, e := area.Used(c.sectors, c.from, c.to)
		hold(t, "Used", []int{c.sectors, c.from, c.to}, n, e, c.used)
	}
}

// P9.1: of all disks, and all SEGMENTS that there are.
func TestUsedOfAll(t *testing.T) {
	for s := 64; s <= 512; s++ {
		for from := range firsts(s) {
			for to := range firsts(s) {
				n, e := area.Used(s, from, to)
				hold(t, "Used", []int{s, from, to}, n, e, usedOf(s, from, to))
			}
		}
	}
}

// P9.1: Used goes by Next: one step further counts one more, till all are counted.
func TestUsedGoesByNext(t *testing.T) {
	for s := 64; s <= 512; s++ {
		segs, _ := area.Segs(s)
		for from := range segs {
			to := from
			for want := 1; want <= segs; want++ {
				n, e := area.Used(s, from, to)
				hold(t, "Used", []int{s, from, to}, n, e, want)
				to, _ = area.Next(s, to)
			}
		}
	}
}

// P9.1: a SEGMENT that there isn't, on a disk that can be.
func TestNoSuchSegment(t *testing.T) {
	for s := 64; s <= 512; s++ {
		for _, k := range wrongSegs(s) {
			n, e := area.Seg(s, k)
			holdNone(t, "Seg", []int{s, k}, n, e)
			n, e = area.Next(s, k)
			holdNone(t, "Next", []int{s, k}, n, e)
			n, e = area.Used(s, k, k)
			holdNone(t, "Used", []int{s, k, k}, n, e)
			for there := range firsts(s) {
				n, e = area.Used(s, k, there)
				holdNone(t, "Used", []int{s, k, there}, n, e)
				n, e = area.Used(s, there, k)
				holdNone(t, "Used", []int{s, there, k}, n, e)
			}
		}
	}
}

// P9.1: neither of both is there, whatever their difference.
func TestUsedOfNeither(t *testing.T) {
	for _, s := range []int{64, 79, 80, 95, 96, 511, 512} {
		for _, from := range wrongSegs(s) {
			for _, to := range wrongSegs(s) {
				n, e := area.Used(s, from, to)
				holdNone(t, "Used", []int{s, from, to}, n, e)
			}
		}
	}
}

// P9.1: a disk that can't be has no SEGMENT, whichever is asked for.
func TestNoSegmentOfNoDisk(t *testing.T) {
	for _, s := range wrongDisks() {
		for _, k := range anySegs() {
			n, e := area.Seg(s, k)
			holdNone(t, "Seg", []int{s, k}, n, e)
			n, e = area.Next(s, k)
			holdNone(t, "Next", []int{s, k}, n, e)
			for _, to := range anySegs() {
				n, e = area.Used(s, k, to)
				holdNone(t, "Used", []int{s, k, to}, n, e)
			}
		}
	}
}

// P9.1: Seg, Next and Used know as many SEGMENTS as Segs tells.
func TestAllKnowTheSame(t *testing.T) {
	for s := 0; s <= 600; s++ {
		segs, _ := area.Segs(s)
		for k := -2; k <= 40; k++ {
			there := k >= 0 && k < segs
			_, a := area.Seg(s, k)
			_, b := area.Next(s, k)
			_, c := area.Used(s, k, k)
			if there != (a == api.OK) || a != b || a != c {
				t.Errorf("SEGMENT %d of %d sectors: %d, %d, %d", k, s, a, b, c)
			}
		}
	}
}

// SLOTS and SEGMENTS lie apart from one another and on the disk, and only less than a SEGMENT's sectors are left.
func TestPlacesLieApart(t *testing.T) {
	for s := 64; s <= 512; s++ {
		places := []int{area.Slot(0), area.Slot(1)}
		segs, _ := area.Segs(s)
		for k := range segs {
			at, e := area.Seg(s, k)
			if e != api.OK {
				t.Fatalf("Seg(%d, %d) = %d", s, k, e)
			}
			places = append(places, at)
		}
		whose := make([]int, s)
		for _, at := range places {
			if at < 0 || at+16 > s {
				t.Fatalf("%d sectors: what is at %d isn't on the disk", s, at)
			}
			for i := at; i < at+16; i++ {
				whose[i]++
			}
		}
		if slices.Max(whose) > 1 {
			t.Errorf("%d sectors: some are in two places: %v", s, whose)
		}
		if free := s - 16*len(places); free < 0 || free >= 16 {
			t.Errorf("%d sectors: %d are left", s, free)
		}
	}
}

// P2: what is answered hangs on nothing that was asked before.
func TestNothingIsKept(t *testing.T) {
	for range 3 {
		n, e := area.Used(512, 29, 0)
		hold(t, "Used", []int{512, 29, 0}, n, e, 2)
		n, e = area.Segs(63)
		holdNone(t, "Segs", []int{63}, n, e)
		n, e = area.Seg(64, 29)
		holdNone(t, "Seg", []int{64, 29}, n, e)
		n, e = area.Used(64, 1, 0)
		hold(t, "Used", []int{64, 1, 0}, n, e, 2)
		n, e = area.Next(80, 2)
		hold(t, "Next", []int{80, 2}, n, e, 0)
		n, e = area.Segs(512)
		hold(t, "Segs", []int{512}, n, e, 30)
	}
}
