package frame_test

import (
	"bytes"
	"encoding/binary"
	"hash/crc32"
	"math"
	"math/bits"
	"math/rand"
	"slices"
	"testing"

	"floodgate/api"
	"floodgate/frame"
)

// sumOf is layer 3's sum by the library's, which takes each byte's lowest bit first.
func sumOf(b []byte) uint32 {
	turned := make([]byte, len(b))
	for i, c := range b {
		turned[i] = bits.Reverse8(c)
	}
	return bits.Reverse32(crc32.ChecksumIEEE(turned))
}

// bytesOf are BYTES by their words, with any length in front, and a sum that is right.
func bytesOf(length int, seq uint64, epoch uint32, payload []byte) []byte {
	b := binary.BigEndian.AppendUint16(nil, uint16(length))
	b = binary.BigEndian.AppendUint64(b, seq)
	b = binary.BigEndian.AppendUint32(b, epoch)
	b = append(b, payload...)
	return binary.BigEndian.AppendUint32(b, sumOf(b))
}

// sectorsOf are bytes in as many sectors as they need, with zeros behind them.
func sectorsOf(b []byte) []api.Sector {
	var out []api.Sector
	for i, c := range b {
		if i%64 == 0 {
			out = append(out, api.Sector{})
		}
		out[i/64][i%64] = c
	}
	return out
}

// makeOf is Make by its words, of a record that is RIGHT.
func makeOf(r api.Record) []api.Sector {
	return sectorsOf(bytesOf(len(r.Payload), r.Seq, r.Epoch, r.Payload))
}

// openOf is Open by its words: of each length that there is, it is asked whether the record of that length is there.
func openOf(l []api.Sector) (api.Record, int, bool) {
	var b []byte
	for _, s := range l {
		b = append(b, s[:]...)
	}
	for length := 0; length <= 700 && 18+length <= len(b); length++ {
		r := api.Record{Seq: binary.BigEndian.Uint64(b[2:]), Epoch: binary.BigEndian.Uint32(b[10:]), Payload: b[14 : 14+length]}
		if int(b[0])*256+int(b[1]) != length || r.Seq == 0 {
			continue
		}
		if made := makeOf(r); slices.Equal(made, l[:len(made)]) {
			return r, len(made), true
		}
	}
	return api.Record{}, 0, false
}

// payload is so many bytes, none of them 0, which are others for another seed.
func payload(n int, seed int64) []byte {
	from := rand.New(rand.NewSource(seed))
	b := make([]byte, n)
	for i := range b {
		b[i] = byte(1 + from.Intn(255))
	}
	return b
}

// record is one that is RIGHT, with so many bytes of Payload.
func record(n int, seed int64) api.Record {
	return api.Record{Seq: 0x0102030405060708 + uint64(seed), Epoch: 0x0a0b0c0d + uint32(seed), Payload: payload(n, seed)}
}

// lengths are those at which a record needs a further sector, and those beside them, from the least to the greatest.
func lengths() []int {
	out := []int{0, 1, 2}
	for n := 46; n < 700; n += 64 {
		out = append(out, n-1, n, n+1)
	}
	return append(out, 255, 256, 257, 511, 512, 699, 700)
}

// records are RIGHT ones at all edges.
func records() []api.Record {
	var out []api.Record
	for _, n := range lengths() {
		for _, seq := range []uint64{1, 2, 255, 256, 1 << 31, 1 << 32, 1<<63 - 1, 1 << 63, 0x0102030405060708, math.MaxUint64 - 1, math.MaxUint64} {
			for _, epoch := range []uint32{0, 1, 256, 1 << 31, 0x0a0b0c0d, math.MaxUint32} {
				out = append(out, api.Record{Seq: seq, Epoch: epoch, Payload: payload(n, 8)})
			}
		}
	}
	for _, n := range []int{1, 46, 47, 700} {
		out = append(out, api.Record{Seq: 1, Payload: make([]byte, n)})
		out = append(out, api.Record{Seq: math.MaxUint64, Epoch: math.MaxUint32, Payload: bytes.Repeat([]byte{255}, n)})
	}
	return out
}

func sameRecord(a, b api.Record) bool {
	return a.Seq == b.Seq && a.Epoch == b.Epoch && bytes.Equal(a.Payload, b.Payload)
}

func holdMake(t *testing.T, r api.Record, want []api.Sector) {
	t.Helper()
	if l, e := frame.Make(r); e != api.OK || !slices.Equal(l, want) {
		t.Fatalf("Make(%v) = %v, %d, not %v", r, l, e, want)
	}
}

func holdNotMade(t *testing.T, r api.Record) {
	t.Helper()
	if l, e := frame.Make(r); len(l) != 0 || e != api.ErrFrame {
		t.Fatalf("Make of Seq %d and %d bytes = %d sectors, %d", r.Seq, len(r.Payload), len(l), e)
	}
}

func holdOpen(t *testing.T, l []api.Sector, want api.Record, size int) {
	t.Helper()
	if r, n, ok := frame.Open(l); !ok || n != size || !sameRecord(r, want) {
		t.Fatalf("Open(%v) = %v, %d, %t, not %v, %d", l, r, n, ok, want, size)
	}
}

func holdNone(t *testing.T, l []api.Sector) {
	t.Helper()
	if r, n, ok := frame.Open(l); ok || n != 0 || r.Seq != 0 || r.Epoch != 0 || len(r.Payload) != 0 {
		t.Fatalf("Open(%v) = %v, %d, %t, not none", l, r, n, ok)
	}
}

// P8.1
func TestSizeExamples(t *testing.T) {
	for payload, want := range map[int]int{
		0: 1, 1: 1, 45: 1, 46: 1, 47: 2, 48: 2, 109: 2, 110: 2, 111: 3, 174: 3, 175: 4,
		685: 11, 686: 11, 687: 12, 699: 12, 700: 12,
		-1: 0, -2: 0, -18: 0, -19: 0, -64: 0, -700: 0, math.MinInt32: 0, math.MinInt + 1: 0, math.MinInt: 0,
		701: 0, 702: 0, 750: 0, 751: 0, 1 << 16: 0, 1<<16 + 1: 0, math.MaxInt32: 0, 1 << 32: 0, 1<<32 + 5: 0, math.MaxInt - 17: 0, math.MaxInt - 1: 0, math.MaxInt: 0,
	} {
		if n := frame.Size(payload); n != want {
			t.Errorf("Size(%d) = %d, not %d", payload, n, want)
		}
	}
}

// P8.1: Size is how many sectors Make has, for all that it has any of.
func TestSizeOfAll(t *testing.T) {
	for n := range 900 {
		l, e := frame.Make(api.Record{Seq: 1, Payload: make([]byte, n)})
		if size := frame.Size(n); size != len(l) || (size == 0) != (e != api.OK) {
			t.Errorf("Size(%d) = %d; Make has %d, %d", n, size, len(l), e)
		}
		want := 0
		for want*64 < 18+n && n <= 700 {
			want++
		}
		if size := frame.Size(n); size != want {
			t.Errorf("Size(%d) = %d, not %d", n, size, want)
		}
	}
}

// P8.2: the chapter's own example.
func TestExample(t *testing.T) {
	r := api.Record{Seq: 0x0102030405060708, Epoch: 0x0a0b0c0d}
	l, e := frame.Make(r)
	if e != api.OK || len(l) != 1 || frame.Size(0) != 1 {
		t.Fatal(l, e)
	}
	if head := []byte{0, 0, 1, 2, 3, 4, 5, 6, 7, 8, 10, 11, 12, 13}; !bytes.Equal(l[0][:14], head) {
		t.Errorf("% x, not % x", l[0][:14], head)
	}
	if sum := binary.BigEndian.Uint32(l[0][14:]); sum != sumOf(l[0][:14]) || sum == 0 {
		t.Errorf("the sum is %08x", sum)
	}
	if !bytes.Equal(l[0][18:], make([]byte, 46)) {
		t.Errorf("what is left: % x", l[0][18:])
	}
	holdOpen(t, l, r, 1)
}

// P8.2
func TestMakeByWords(t *testing.T) {
	// The sum stands half in one sector, half in the next.
	r := api.Record{Seq: 1, Epoch: 0, Payload: bytes.Repeat([]byte{9}, 48)}
	l, e := frame.Make(r)
	if e != api.OK || len(l) != 2 {
		t.Fatal(l, e)
	}
	if !bytes.Equal(l[0][:14], []byte{0, 48, 0, 0, 0, 0, 0, 0, 0, 1, 0, 0, 0, 0}) || !bytes.Equal(l[0][14:62], r.Payload) {
		t.Errorf("% x", l[0])
	}
	sum := sumOf(l[0][:62])
	if !bytes.Equal(l[0][62:], []byte{byte(sum >> 24), byte(sum >> 16)}) || !bytes.Equal(l[1][:2], []byte{byte(sum >> 8), byte(sum)}) {
		t.Errorf("the sum: % x % x, not %08x", l[0][62:], l[1][:2], sum)
	}
	if !bytes.Equal(l[1][2:], make([]byte, 62)) {
		t.Errorf("what is left: % x", l[1][2:])
	}
	// A length of more than a byte, the highest first; the sum alone is in the last sector.
	l, e = frame.Make(api.Record{Seq: 1 << 56, Epoch: 1 << 24, Payload: make([]byte, 690)})
	if e != api.OK || len(l) != 12 || !bytes.Equal(l[0][:14], []byte{2, 178, 1, 0, 0, 0, 0, 0, 0, 0, 1, 0, 0, 0}) {
		t.Errorf("%v, %d", l, e)
	}
	if l[11] == (api.Sector{}) || !bytes.Equal(l[11][4:], make([]byte, 60)) {
		t.Errorf("the last of %d: % x", len(l), l[11])
	}
}

// P8.2
func TestMakeAndOpen(t *testing.T) {
	for _, r := range records() {
		want := makeOf(r)
		holdMake(t, r, want)
		holdOpen(t, want, r, len(want))
	}
	for n := range 701 {
		r := record(n, int64(n))
		want := makeOf(r)
		holdMake(t, r, want)
		holdOpen(t, want, r, len(want))
	}
}

// P8.2: a Payload that is nil is as one that is empty.
func TestMakeWithoutPayload(t *testing.T) {
	for _, seq := range []uint64{1, math.MaxUint64} {
		want := makeOf(api.Record{Seq: seq, Epoch: 7})
		holdMake(t, api.Record{Seq: seq, Epoch: 7}, want)
		holdMake(t, api.Record{Seq: seq, Epoch: 7, Payload: []byte{}}, want)
		// Spare room is no part of it.
		holdMake(t, api.Record{Seq: seq, Epoch: 7, Payload: []byte{1, 2, 3}[:0]}, want)
		holdMake(t, api.Record{Seq: seq, Epoch: 7, Payload: payload(701, 1)[:0]}, want)
	}
}

// P8.2: what is left of the last sector has zeros, whatever was made before.
func TestMakeFillsUpWithZeros(t *testing.T) {
	for n := range 701 {
		frame.Make(record(700, 5))
		l, e := frame.Make(record(n, 6))
		if e != api.OK {
			t.Fatalf("Make of %d bytes = %d", n, e)
		}
		used := 18 + n - 64*(len(l)-1)
		if used < 1 || used > 64 {
			t.Fatalf("Make of %d bytes has %d sectors", n, len(l))
		}
		for _, c := range l[len(l)-1][used:] {
			if c != 0 {
				t.Fatalf("Make of %d bytes ends with % x", n, l[len(l)-1])
			}
		}
	}
}

// P8.2
func TestMakeOfWrongRecords(t *testing.T) {
	holdNotMade(t, api.Record{})
	for _, epoch := range []uint32{0, 1, math.MaxUint32} {
		for _, n := range []int{0, 1, 46, 47, 110, 111, 700, 701} {
			holdNotMade(t, api.Record{Seq: 0, Epoch: epoch, Payload: payload(n, 1)})
		}
		// Of the last ones, two bytes have a length that could be.
		for _, n := range []int{701, 702, 749, 750, 751, 1500, 1<<16 - 1, 1 << 16, 1<<16 + 1, 1<<16 + 700, 1 << 20} {
			for _, seq := range []uint64{0, 1, math.MaxUint64} {
				holdNotMade(t, api.Record{Seq: seq, Epoch: epoch, Payload: make([]byte, n)})
			}
		}
	}
}

// P8.2
func TestOpenOfNothing(t *testing.T) {
	holdNone(t, nil)
	holdNone(t, []api.Sector{})
	// The sectors behind the end are there, but not handed in.
	holdNone(t, makeOf(record(0, 1))[:0])
	holdNone(t, makeOf(record(700, 1))[:0])
	for n := range 20 {
		holdNone(t, make([]api.Sector, n))
	}
	holdNone(t, make([]api.Sector, 512))
}

// P8.2
func TestOpenOfFewerSectors(t *testing.T) {
	for _, n := range lengths() {
		l := makeOf(record(n, 2))
		for k := range len(l) {
			holdNone(t, l[:k])
			holdNone(t, slices.Clone(l[:k]))
		}
		for k := 1; k < len(l); k++ {
			holdNone(t, l[k:])
		}
	}
}

// P8.2: what is behind the record's sectors isn't looked at.
func TestOpenWithSectorsBehind(t *testing.T) {
	var full api.Sector
	for i := range full {
		full[i] = 255
	}
	for _, n := range lengths() {
		r := record(n, 3)
		l := makeOf(r)
		for _, behind := range [][]api.Sector{{{}}, {{9}}, {full}, {full, {}, full}, l, makeOf(record(0, 4)), makeOf(record(700, 4)), make([]api.Sector, 500)} {
			holdOpen(t, slices.Concat(l, behind), r, len(l))
		}
		// A record isn't found behind something else.
		holdNone(t, slices.Concat([]api.Sector{{}}, l))
		holdNone(t, slices.Concat([]api.Sector{full}, l))
	}
}

// P8.2: one bit is another one, at each place: the length, Seq, Epoch, Payload, the sum, what is filled up.
func TestOpenOfOneBitTurned(t *testing.T) {
	for _, n := range []int{0, 1, 45, 46, 47, 50, 109, 110, 111, 300, 699, 700} {
		for _, r := range []api.Record{record(n, 4), {Seq: 1, Payload: make([]byte, n)}} {
			l := makeOf(r)
			behind := slices.Concat(l, makeOf(record(700, 5)))
			for i := range 512 * len(l) {
				turn(l, i)
				holdNone(t, l)
				turn(l, i)
				turn(behind, i)
				holdNone(t, behind)
				turn(behind, i)
			}
			for i := 512 * len(l); i < 512*len(behind); i += 7 {
				turn(behind, i)
				holdOpen(t, behind, r, len(l))
				turn(behind, i)
			}
		}
	}
}

func turn(l []api.Sector, bit int) { l[bit/512][bit%512/8] ^= 128 >> (bit % 8) }

// P8.2: the sum is right, Seq is 0.
func TestOpenOfSeqZero(t *testing.T) {
	for _, n := range lengths() {
		for _, epoch := range []uint32{0, 1, 0x0a0b0c0d, math.MaxUint32} {
			holdNone(t, sectorsOf(bytesOf(n, 0, epoch, payload(n, 6))))
			holdNone(t, append(sectorsOf(bytesOf(n, 0, epoch, payload(n, 6))), make([]api.Sector, 20)...))
		}
	}
}

// P8.2: the sum is right, the length is more than 700.
func TestOpenOfLengthsAbove(t *testing.T) {
	for _, n := range []int{701, 702, 749, 750, 751, 800, 1024, 1<<15 - 1, 1 << 15, 1<<16 - 19, 1<<16 - 1} {
		l := sectorsOf(bytesOf(n, 1, 2, payload(n, 7)))
		for _, behind := range []int{0, 1, 20} {
			holdNone(t, append(slices.Clone(l), make([]api.Sector, behind)...))
		}
	}
	for n := 701; n < 1<<16; n += 13 {
		holdNone(t, append(sectorsOf(bytesOf(n, 1, 2, payload(50, 7))), make([]api.Sector, 20)...))
	}
}

// P8.2: the length says another one than that whose sum is right.
func TestOpenOfWrongLengths(t *testing.T) {
	for _, held := range []int{0, 1, 46, 47, 110, 111, 300, 700} {
		for n := range 701 {
			if n == held {
				continue
			}
			l := sectorsOf(bytesOf(n, 1, 2, payload(held, 7)))
			holdNone(t, l)
			// More sectors than there are; as many as it says.
			holdNone(t, append(l, make([]api.Sector, 12)...))
		}
	}
}

// P8.2: the sum is right, and what is left isn't zeros.
func TestOpenOfWhatIsLeft(t *testing.T) {
	for _, n := range []int{0, 1, 45, 46, 47, 109, 110, 111, 687, 699, 700} {
		r := record(n, 9)
		for i := 18 + n; i%64 != 0; i++ {
			for _, c := range []byte{1, 128, 255} {
				l := makeOf(r)
				l[i/64][i%64] = c
				holdNone(t, l)
				holdNone(t, append(l, api.Sector{}))
			}
		}
	}
}

// P8.2: a sum that is right by another rule isn't.
func TestOpenOfOtherSums(t *testing.T) {
	for _, n := range []int{0, 10, 46, 47, 700} {
		b := bytesOf(n, 5, 6, payload(n, 9))
		inner := b[:14+n]
		for _, sum := range []uint32{0, math.MaxUint32, ^sumOf(inner), bits.ReverseBytes32(sumOf(inner)), bits.Reverse32(sumOf(inner)), crc32.ChecksumIEEE(inner), sumOf(inner[2:]), sumOf(inner[14:])} {
			holdNone(t, sectorsOf(binary.BigEndian.AppendUint32(slices.Clone(inner), sum)))
		}
	}
}

// P8.2: the numbers are told the highest byte first.
func TestOpenOfFieldsTurnedRound(t *testing.T) {
	r := api.Record{Seq: 0x0807060504030201, Epoch: 0x0d0c0b0a, Payload: payload(0x0101, 1)}
	holdOpen(t, sectorsOf(bytesOf(0x0101, bits.ReverseBytes64(0x0102030405060708), bits.ReverseBytes32(0x0a0b0c0d), r.Payload)), r, 5)
	// Three bytes, said the lowest first: 768 are too many.
	b := bytesOf(3<<8, 1, 2, payload(3, 1))
	holdNone(t, append(sectorsOf(b), make([]api.Sector, 20)...))
}

// P8.2: whatever the sectors are, Open tells what its words tell.
func TestOpenAgainstWords(t *testing.T) {
	from := rand.New(rand.NewSource(88))
	found := 0
	for range 20000 {
		l := some(from)
		want, size, ok := openOf(l)
		if !ok {
			holdNone(t, l)
			continue
		}
		found++
		holdOpen(t, l, want, size)
	}
	if found < 2000 || found > 18000 {
		t.Errorf("%d of them begin with a record", found)
	}
}

// some are sectors with records and other things among them.
func some(from *rand.Rand) []api.Sector {
	var out []api.Sector
	for range from.Intn(4) {
		n := from.Intn(130)
		switch from.Intn(5) {
		case 0:
			var s api.Sector
			from.Read(s[:])
			s[0], s[1] = 0, s[1]%130
			out = append(out, s)
		case 1:
			out = append(out, api.Sector{})
		case 2:
			out = append(out, sectorsOf(bytesOf(n, uint64(from.Intn(2)), from.Uint32(), payload(n, from.Int63())))...)
		default:
			out = append(out, makeOf(record(n, from.Int63()))...)
		}
	}
	if len(out) > 0 && from.Intn(6) == 0 {
		turn(out, from.Intn(512*len(out)))
	}
	return out
}

// laid is before, with those sectors of a record's in their places that the bits tell.
func laid(before, l []api.Sector, which int) []api.Sector {
	out := slices.Clone(before)
	for i, s := range l {
		if which>>i&1 == 1 {
			out[i] = s
		}
	}
	return out
}

// holdMix holds what some sectors of a record, in the place of what was before, may tell; and tells how often it was nothing, though both were a record.
func holdMix(t *testing.T, before []api.Sector, r api.Record) int {
	t.Helper()
	l := makeOf(r)
	old, oldSize, was := openOf(before)
	nothing := 0
	for which := range 1 << len(l) {
		mixed := laid(before, l, which)
		got, n, ok := frame.Open(mixed)
		switch {
		case slices.Equal(mixed[:len(l)], l):
			holdOpen(t, mixed, r, len(l))
		case was && slices.Equal(mixed[:oldSize], before[:oldSize]):
			holdOpen(t, mixed, old, oldSize)
		default:
			holdNone(t, mixed)
			nothing++
		}
		if ok && !(n == len(l) && sameRecord(got, r)) && !(was && n == oldSize && sameRecord(got, old)) {
			t.Fatalf("%d sectors of %v in the place of %v tell %v", which, r, old, got)
		}
	}
	return nothing
}

// P8.3: in the place of another record's, of the same size and of others, and of those behind it.
func TestSomeSectorsOfARecord(t *testing.T) {
	nothing := 0
	for _, n := range []int{0, 10, 46, 47, 100, 110, 111, 200, 400, 450} {
		for _, was := range []int{0, 10, 46, 47, 100, 110, 111, 200, 400, 450} {
			before := slices.Concat(makeOf(record(was, 11)), makeOf(record(100, 12)), makeOf(record(700, 13)))
			nothing += holdMix(t, before, record(n, 14))
		}
	}
	if nothing < 1000 {
		t.Errorf("nothing was told %d times", nothing)
	}
}

// P8.3: a record of the greatest size.
func TestSomeSectorsOfTheGreatest(t *testing.T) {
	for _, was := range []int{0, 300, 687, 700} {
		before := append(makeOf(record(was, 15)), make([]api.Sector, 12)...)
		if nothing := holdMix(t, before, record(700, 16)); nothing < 1000 {
			t.Errorf("nothing was told %d times", nothing)
		}
	}
	if nothing := holdMix(t, make([]api.Sector, 12), record(700, 17)); nothing != 1<<12-1 {
		t.Errorf("nothing was told %d times, of sectors with zeros", nothing)
	}
}

// P8.3: records that differ in little: in Seq, in Epoch, in one byte of the Payload.
func TestSomeSectorsOfSimilarRecords(t *testing.T) {
	for _, n := range []int{47, 48, 50, 110, 111, 200, 300} {
		r := record(n, 18)
		next, later, other := r, r, r
		next.Seq++
		later.Epoch++
		other.Payload = slices.Clone(r.Payload)
		other.Payload[n-1]++
		for _, x := range []api.Record{r, next, later, other} {
			for _, y := range []api.Record{r, next, later, other} {
				holdMix(t, makeOf(x), y)
			}
		}
		// Sectors of the Payload alone are the same in both; the first and the last, with Seq and the sum, are not.
		if nothing := holdMix(t, makeOf(r), next); nothing == 0 {
			t.Errorf("of %d bytes, some sectors always tell a record", n)
		}
	}
}

// P8.3: a record whose Payload is a record's sectors, in the place of which others come.
func TestSomeSectorsOfNestedRecords(t *testing.T) {
	var inner []byte
	for _, s := range makeOf(record(100, 19)) {
		inner = append(inner, s[:]...)
	}
	outer := record(0, 20)
	outer.Payload = append(make([]byte, 50), inner...)
	l := makeOf(outer)
	// The inner one's first sector is the outer one's second.
	holdOpen(t, l[1:], record(100, 19), 2)
	holdOpen(t, l, outer, len(l))
	for _, n := range []int{0, 46, 47, 110, 130, 180} {
		holdMix(t, append(l[:len(l):len(l)], make([]api.Sector, 2)...), record(n, 21))
		holdMix(t, append(makeOf(record(n, 21)), make([]api.Sector, 4)...), outer)
	}
}

// What is handed in isn't changed, spare room included, and isn't kept.
func TestMakeOfWhatIsHandedIn(t *testing.T) {
	for _, n := range []int{0, 1, 46, 47, 110, 700, 701} {
		whole := payload(n+40, 22)
		kept := slices.Clone(whole)
		r := api.Record{Seq: 5, Epoch: 6, Payload: whole[:n]}
		first, e := frame.Make(r)
		second, _ := frame.Make(r)
		if !bytes.Equal(whole, kept) || len(r.Payload) != n {
			t.Fatalf("Make changed a Payload of %d bytes", n)
		}
		if (e == api.OK) != (n <= 700) {
			t.Fatalf("Make of %d bytes = %d", n, e)
		}
		want := slices.Clone(second)
		spoil(first)
		if !bytes.Equal(whole, kept) || !slices.Equal(second, want) {
			t.Fatalf("a change of the sectors is one of the Payload of %d bytes, or of other sectors", n)
		}
		for i := range whole {
			whole[i] ^= 255
		}
		if !slices.Equal(second, want) {
			t.Fatalf("a change of the Payload of %d bytes is one of the sectors", n)
		}
	}
}

// spoil writes over all that a list has, spare room included.
func spoil(l []api.Sector) {
	l = l[:cap(l)]
	for i := range l {
		for k := range l[i] {
			l[i][k] ^= 255
		}
	}
}

// What is handed in isn't changed, spare room included, and isn't kept.
func TestOpenOfWhatIsHandedIn(t *testing.T) {
	for _, n := range []int{0, 1, 46, 47, 110, 700} {
		want := record(n, 23)
		size := len(makeOf(want))
		whole := append(makeOf(want), makeOf(record(300, 24))...)
		kept := slices.Clone(whole)
		first, _, ok := frame.Open(whole[:size])
		second, _, _ := frame.Open(whole[:size])
		frame.Open(whole[:size-1])
		if !slices.Equal(whole, kept) || !ok {
			t.Fatalf("Open changed sectors of %d bytes", n)
		}
		b := first.Payload[:cap(first.Payload)]
		for i := range b {
			b[i] ^= 255
		}
		if !slices.Equal(whole, kept) || !sameRecord(second, want) {
			t.Fatalf("a change of the Payload of %d bytes is one of the sectors, or of another Payload", n)
		}
		holdOpen(t, whole[:size], want, size)
		spoil(whole)
		if !sameRecord(second, want) {
			t.Fatalf("a change of the sectors of %d bytes is one of the Payload", n)
		}
	}
}

// What is answered hangs on nothing that was made or opened before.
func TestNothingIsKept(t *testing.T) {
	a, b := record(700, 25), record(3, 26)
	for range 3 {
		holdMake(t, a, makeOf(a))
		holdNotMade(t, api.Record{Payload: a.Payload})
		holdMake(t, b, makeOf(b))
		holdOpen(t, makeOf(a), a, 12)
		holdNone(t, makeOf(a)[:11])
		holdOpen(t, makeOf(b), b, 1)
		holdNone(t, nil)
	}
}
