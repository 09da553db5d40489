package head_test

import (
	"bytes"
	"encoding/binary"
	"math"
	"math/rand"
	"slices"
	"testing"

	"floodgate/api"
	"floodgate/head"
)

// sumOf is Sum by a remainder: adding what is above 65535 once more leaves the number's remainder by 65535, and 0 of 0 alone.
func sumOf(b []byte) uint16 {
	total := uint64(0)
	for i, c := range b {
		if i%2 == 0 {
			total += 256 * uint64(c)
		} else {
			total += uint64(c)
		}
	}
	if total == 0 {
		return 65535
	}
	return uint16(65535 - 1 - (total-1)%65535)
}

// makeOf is the PACKET by its words, of what can be one.
func makeOf(h api.Head, payload []byte) []byte {
	b := []byte{byte(4*16 + 5 + len(h.Options)/4), byte(h.Tos)}
	b = binary.BigEndian.AppendUint16(b, uint16(20+len(h.Options)+len(payload)))
	b = binary.BigEndian.AppendUint16(b, uint16(h.ID))
	b = binary.BigEndian.AppendUint16(b, uint16(h.Flags))
	b = append(b, byte(h.TTL), byte(h.Proto))
	rest := slices.Concat(h.Src[:], h.Dst[:], h.Options)
	sum := sumOf(slices.Concat(b, []byte{0, 0}, rest))
	return slices.Concat(b, []byte{byte(sum / 256), byte(sum % 256)}, rest, payload)
}

// errorOf is Read's error by its words.
func errorOf(b []byte) api.Errno {
	if len(b) < 20 {
		return api.ErrShort
	}
	if b[0] < 64 || b[0] > 79 {
		return api.ErrVersion
	}
	words := int(b[0]) - 64
	if words < 5 || words*4 > len(b) {
		return api.ErrLength
	}
	if int(binary.BigEndian.Uint16(b[2:])) != len(b) || len(b) > 1500 {
		return api.ErrLength
	}
	if sumOf(b[:words*4]) != 0 {
		return api.ErrSum
	}
	return api.OK
}

// summed is a copy of bytes with the SUM that their HEADER asks for, as far as there is one.
func summed(b []byte) []byte {
	out := slices.Clone(b)
	if len(out) < 20 {
		return out
	}
	out[10], out[11] = 0, 0
	binary.BigEndian.PutUint16(out[10:], sumOf(out[:min(len(out), int(out[0]%16)*4)]))
	return out
}

func same(a, b api.Head) bool {
	return a.Tos == b.Tos && a.ID == b.ID && a.Flags == b.Flags && a.TTL == b.TTL && a.Proto == b.Proto &&
		a.Src == b.Src && a.Dst == b.Dst && bytes.Equal(a.Options, b.Options)
}

func some() api.Head {
	return api.Head{Tos: 1, ID: 0x0203, Flags: 0x4050, TTL: 64, Proto: 17, Src: api.Addr{10, 20, 30, 40}, Dst: api.Addr{192, 168, 1, 77}, Options: []byte{7, 4, 5, 6}}
}

// bytesOf are so many bytes of which no two next to each other are alike.
func bytesOf(n int) []byte {
	b := make([]byte, n)
	for i := range b {
		b[i] = byte(i*37 + 11)
	}
	return b
}

func anyHead(from *rand.Rand) api.Head {
	h := api.Head{Tos: from.Intn(256), ID: from.Intn(65536), Flags: from.Intn(65536), TTL: from.Intn(256), Proto: from.Intn(256), Options: make([]byte, 4*from.Intn(11))}
	from.Read(h.Src[:])
	from.Read(h.Dst[:])
	from.Read(h.Options)
	return h
}

func holdSum(t *testing.T, want uint16, b ...byte) {
	t.Helper()
	if sum := head.Sum(b); sum != want {
		t.Errorf("Sum of %d bytes, %x.. = %04x, not %04x", len(b), b[:min(len(b), 16)], sum, want)
	}
}

// holdMade holds Make, and Read of what it makes, against the PACKET by its words.
func holdMade(t *testing.T, h api.Head, payload []byte) {
	t.Helper()
	b, e := head.Make(h, payload)
	if e != api.OK || !bytes.Equal(b, makeOf(h, payload)) {
		t.Errorf("Make(%v, %d bytes) = %x, %d", h, len(payload), b, e)
		return
	}
	if sum := head.Sum(b[:20+len(h.Options)]); sum != 0 {
		t.Errorf("Make(%v, %d bytes) has a HEADER of the Sum %04x", h, len(payload), sum)
	}
	holdRead(t, b, h, payload)
}

func holdNotMade(t *testing.T, h api.Head, payload []byte) {
	t.Helper()
	if b, e := head.Make(h, payload); len(b) != 0 || e != api.ErrHead {
		t.Errorf("Make(%v, %d bytes) = %x, %d", h, len(payload), b, e)
	}
}

func holdRead(t *testing.T, b []byte, h api.Head, payload []byte) {
	t.Helper()
	k, p, e := head.Read(b)
	if e != api.OK || !same(k, h) || !bytes.Equal(p, payload) {
		t.Errorf("Read(%x) = %v, %x, %d, not %v, %x", b, k, p, e, h, payload)
	}
}

// holdNot tells whether Read, and Hop of the same bytes, answer an error and nothing else.
func holdNot(t *testing.T, b []byte, want api.Errno) {
	t.Helper()
	if k, p, e := head.Read(b); e != want || !same(k, api.Head{}) || len(p) != 0 {
		t.Errorf("Read(%x) = %v, %x, %d, not %d", b, k, p, e, want)
	}
	if x, e := head.Hop(b); e != want || len(x) != 0 {
		t.Errorf("Hop(%x) = %x, %d, not %d", b, x, e, want)
	}
}

// holdAny holds Read and Hop of any bytes against the words of both.
func holdAny(t *testing.T, b []byte) {
	t.Helper()
	if want := errorOf(b); want != api.OK {
		holdNot(t, b, want)
		return
	}
	k, p, e := head.Read(b)
	if e != api.OK {
		t.Errorf("Read(%x) = %d", b, e)
		return
	}
	made := makeOf(k, p)
	// The SUM alone may be another one that is as good.
	made[10], made[11] = b[10], b[11]
	if !bytes.Equal(made, b) {
		t.Errorf("Read(%x) = %v, %x", b, k, p)
	}
	holdHop(t, b)
}

// holdHop holds Hop of a PACKET against its words.
func holdHop(t *testing.T, b []byte) {
	t.Helper()
	x, e := head.Hop(b)
	if b[8] == 0 {
		if len(x) != 0 || e != api.ErrHead {
			t.Errorf("Hop(%x) = %x, %d", b, x, e)
		}
		return
	}
	want := slices.Clone(b)
	want[8]--
	if want = summed(want); e != api.OK || !bytes.Equal(x, want) {
		t.Errorf("Hop(%x) = %x, %d, not %x", b, x, e, want)
	}
}

// P5.1
func TestSumExamples(t *testing.T) {
	// The chapter's own: 13 and 251.
	holdSum(t, 13*256+251, 0, 1, 242, 3)
	holdSum(t, 0xffff)
	holdSum(t, 0xffff, 0)
	holdSum(t, 0xffff, 0, 0)
	holdSum(t, 0xffff, make([]byte, 1501)...)
	// A byte alone is the higher one.
	holdSum(t, 0xfeff, 1)
	holdSum(t, 0x00ff, 255)
	holdSum(t, 0xfffe, 0, 1)
	holdSum(t, 0xedcb, 0x12, 0x34)
	holdSum(t, 0x97cb, 0x12, 0x34, 0x56)
	holdSum(t, 0x9753, 0x12, 0x34, 0x56, 0x78)
	// 65535 together, and 65536: nothing is above, and 1 is.
	holdSum(t, 0, 255, 255)
	holdSum(t, 0, 128, 0, 127, 255)
	holdSum(t, 0xfffe, 128, 0, 128, 0)
	holdSum(t, 0xfffe, 255, 255, 0, 1)
	holdSum(t, 0xfeff, 255, 255, 1)
	holdSum(t, 0x00ff, 255, 255, 255)
	// 1ffff in hexadecimal: what is above makes 10000 of the rest, of which 1 is above once more.
	holdSum(t, 0xfffe, 255, 255, 255, 255, 0, 1)
	holdSum(t, 0xfffe, 255, 254, 255, 255, 0, 2)
	holdSum(t, 0x220d, 0, 1, 242, 3, 244, 245, 246, 247)
}

// P5.1
func TestSumOfAllTwoBytes(t *testing.T) {
	for i := range 1 << 16 {
		holdSum(t, uint16(65535-i), byte(i>>8), byte(i))
		holdSum(t, uint16(65535-i&0xff00), byte(i>>8))
		holdSum(t, sumOf([]byte{255, 255, byte(i >> 8), byte(i)}), 255, 255, byte(i>>8), byte(i))
	}
}

// P5.1
func TestSumOfAll255(t *testing.T) {
	for _, n := range []int{1, 2, 3, 4, 19, 20, 21, 60, 1499, 1500, 65535, 65536, 131072, 131074, 131076, 131077, 1 << 20, 1<<20 + 1} {
		want := uint16(0)
		if n%2 == 1 {
			want = 0x00ff
		}
		holdSum(t, want, bytes.Repeat([]byte{255}, n)...)
	}
}

// P5.1
func TestSumOfMany(t *testing.T) {
	from := rand.New(rand.NewSource(51))
	for range 100 {
		for n := range 70 {
			b := make([]byte, n)
			from.Read(b)
			holdSum(t, sumOf(b), b...)
			// High bytes, so that much is above.
			for i := range b {
				b[i] |= 0xf0
			}
			holdSum(t, sumOf(b), b...)
		}
	}
	for _, n := range []int{1499, 1500, 1 << 17, 1<<17 + 1, 1<<20 + 6, 1<<21 - 1} {
		b := make([]byte, n)
		from.Read(b)
		holdSum(t, sumOf(b), b...)
		for i := range b {
			b[i] |= 0xf8
		}
		holdSum(t, sumOf(b), b...)
	}
}

// P5.2, P5.3 and P5.4, on a header whose sum is widely told.
func TestKnownPacket(t *testing.T) {
	h := api.Head{Flags: 0x4000, TTL: 64, Proto: 17, Src: api.Addr{192, 168, 0, 1}, Dst: api.Addr{192, 168, 0, 199}}
	payload := bytesOf(95)
	want := append([]byte{0x45, 0, 0, 0x73, 0, 0, 0x40, 0, 0x40, 0x11, 0xb8, 0x61, 0xc0, 0xa8, 0, 1, 0xc0, 0xa8, 0, 0xc7}, payload...)
	b, e := head.Make(h, payload)
	if e != api.OK || !bytes.Equal(b, want) {
		t.Errorf("Make = %x, %d", b, e)
	}
	holdRead(t, want, h, payload)
	hopped := slices.Clone(want)
	hopped[8], hopped[10], hopped[11] = 0x3f, 0xb9, 0x61
	if x, e := head.Hop(want); e != api.OK || !bytes.Equal(x, hopped) {
		t.Errorf("Hop = %x, %d", x, e)
	}
}

// P5.2: each field has its own place, its higher byte first.
func TestMakeLaysOut(t *testing.T) {
	h := api.Head{Tos: 0xa1, ID: 0xb1b2, Flags: 0xc1c2, TTL: 0xd1, Proto: 0xe1, Src: api.Addr{1, 2, 3, 4}, Dst: api.Addr{5, 6, 7, 8}, Options: []byte{9, 10, 11, 12, 13, 14, 15, 16}}
	b, e := head.Make(h, bytesOf(300))
	first := []byte{0x47, 0xa1, 0x01, 0x48, 0xb1, 0xb2, 0xc1, 0xc2, 0xd1, 0xe1}
	rest := []byte{1, 2, 3, 4, 5, 6, 7, 8, 9, 10, 11, 12, 13, 14, 15, 16}
	if e != api.OK || len(b) != 328 || !bytes.Equal(b[:10], first) || !bytes.Equal(b[12:28], rest) || !bytes.Equal(b[28:], bytesOf(300)) {
		t.Errorf("Make = %x, %d", b, e)
	}
	holdMade(t, h, bytesOf(300))
	holdMade(t, api.Head{}, nil)
	holdMade(t, api.Head{Options: []byte{}}, []byte{})
}

// fields are where a Head's numbers are, with the greatest that each may be.
func fields(h *api.Head) map[*int]int {
	return map[*int]int{&h.Tos: 255, &h.TTL: 255, &h.Proto: 255, &h.ID: 65535, &h.Flags: 65535}
}

// P5.2
func TestMakeAtEndsOfNumbers(t *testing.T) {
	for _, n := range []int{math.MinInt, math.MinInt + 1, math.MinInt32, -1 << 32, -65536, -65535, -256, -255, -1, 0, 1, 127, 128, 254, 255, 256, 257, 32767, 32768, 65534, 65535, 65536, 65537, 1 << 24, 1 << 32, 1<<32 + 1, math.MaxInt32, math.MaxInt - 1, math.MaxInt} {
		for _, begin := range []api.Head{{}, some()} {
			h := begin
			for field, most := range fields(&h) {
				h = begin
				*field = n
				if n >= 0 && n <= most {
					holdMade(t, h, bytesOf(5))
				} else {
					holdNotMade(t, h, bytesOf(5))
				}
			}
		}
	}
}

// P5.2
func TestMakeWithOptions(t *testing.T) {
	for n := range 70 {
		h := some()
		h.Options = bytesOf(n)
		for _, size := range []int{0, 1, 2, 3, 4, 100, 1500 - 20 - n} {
			if n <= 40 && n%4 == 0 {
				holdMade(t, h, bytesOf(size))
			} else {
				holdNotMade(t, h, bytesOf(size))
			}
		}
	}
	for _, n := range []int{256, 260, 1024, 1480, 1484, 1500, 65536, 65540, 1 << 20} {
		h := some()
		h.Options = bytesOf(n)
		holdNotMade(t, h, nil)
	}
}

// P5.2
func TestMakeAtEndsOfSize(t *testing.T) {
	for n := 0; n <= 40; n += 4 {
		h := some()
		h.Options = bytesOf(n)
		room := 1500 - 20 - n
		for _, size := range []int{0, 1, room - 1, room} {
			holdMade(t, h, bytesOf(size))
		}
		for _, size := range []int{room + 1, room + 2, 1500, 1501, 65535 - 20 - n, 65536 - 20 - n, 65536, 65537, 1 << 20} {
			holdNotMade(t, h, bytesOf(size))
		}
		// Not RIGHT and too long at once.
		h.TTL = 256
		holdNotMade(t, h, bytesOf(room+1))
	}
}

// zeroSum is a Head whose SUM is 0: its other numbers make 65535.
func zeroSum(payload int) api.Head {
	h := some()
	h.ID = 0
	b := makeOf(h, make([]byte, payload))
	h.ID = int(binary.BigEndian.Uint16(b[10:]))
	return h
}

// P5.2 and P5.3: Make's SUM is 0 where it may be 65535 too; Read takes both.
func TestSumOfZeroAnd65535(t *testing.T) {
	for _, payload := range [][]byte{nil, bytesOf(33), bytesOf(1476)} {
		h := zeroSum(len(payload))
		holdMade(t, h, payload)
		b, e := head.Make(h, payload)
		if e != api.OK || b[10] != 0 || b[11] != 0 {
			t.Fatalf("Make = %x, %d", b, e)
		}
		other := slices.Clone(b)
		other[10], other[11] = 255, 255
		holdRead(t, other, h, payload)
		for _, x := range [][]byte{b, other} {
			holdHop(t, x)
		}
		for sum := 1; sum < 65535; sum++ {
			other[10], other[11] = byte(sum>>8), byte(sum)
			if _, _, e := head.Read(other); e != api.ErrSum {
				t.Errorf("Read with a SUM of %04x instead of 0 = %d", sum, e)
			}
		}
	}
}

// P5.3: another SUM than that which Make makes is wrong, 0 and 65535 among them.
func TestReadOfAllSums(t *testing.T) {
	b := makeOf(some(), bytesOf(9))
	right := int(binary.BigEndian.Uint16(b[10:]))
	for sum := range 65536 {
		x := slices.Clone(b)
		x[10], x[11] = byte(sum>>8), byte(sum)
		if _, _, e := head.Read(x); (e == api.OK) != (sum == right) || e != api.OK && e != api.ErrSum {
			t.Errorf("Read with a SUM of %04x = %d", sum, e)
		}
	}
}

// P5.2 and P5.3
func TestMadeIsReadBack(t *testing.T) {
	from := rand.New(rand.NewSource(52))
	for range 20000 {
		h := anyHead(from)
		payload := make([]byte, from.Intn(60))
		if from.Intn(20) == 0 {
			payload = make([]byte, from.Intn(1500-20-len(h.Options)+1))
		}
		from.Read(payload)
		holdMade(t, h, payload)
		holdHop(t, makeOf(h, payload))
	}
}

// P5.3
func TestReadOfTooFewBytes(t *testing.T) {
	holdNot(t, nil, api.ErrShort)
	holdNot(t, []byte{}, api.ErrShort)
	for _, b := range [][]byte{makeOf(api.Head{}, nil), makeOf(some(), bytesOf(4)), make([]byte, 20), bytes.Repeat([]byte{255}, 20)} {
		for n := range 20 {
			holdNot(t, b[:n], api.ErrShort)
			// However many bytes it says that it has.
			x := slices.Clone(b[:n])
			if n > 3 {
				x[2], x[3] = 0, byte(n)
			}
			holdNot(t, summed(x), api.ErrShort)
		}
	}
	h := api.Head{TTL: 1, ID: 77}
	holdRead(t, makeOf(h, nil)[:20], h, nil)
}

// P5.3
func TestReadOfFirstBytes(t *testing.T) {
	for _, size := range []int{20, 21, 24, 40, 59, 60, 61, 1500} {
		for first := range 256 {
			b := bytesOf(size)
			b[0] = byte(first)
			binary.BigEndian.PutUint16(b[2:], uint16(size))
			want := api.OK
			if first <= 63 || first >= 80 {
				want = api.ErrVersion
			} else if first <= 68 || (first-64)*4 > size {
				want = api.ErrLength
			}
			if e := errorOf(summed(b)); e != want {
				t.Fatalf("%x is a bad example: %d", b, e)
			}
			holdAny(t, summed(b))
			// With a wrong SUM beside it: the other fault is told, if there is one.
			b = summed(b)
			b[11]++
			if want == api.OK {
				want = api.ErrSum
			}
			holdNot(t, b, want)
		}
	}
}

// P5.3
func TestReadOfLongerHeaders(t *testing.T) {
	for words := 5; words <= 15; words++ {
		for size := 20; size < 66; size++ {
			b := bytesOf(size)
			b[0] = byte(64 + words)
			b[2], b[3] = 0, byte(size)
			b = summed(b)
			if words*4 > size {
				holdNot(t, b, api.ErrLength)
				continue
			}
			k, p, e := head.Read(b)
			if e != api.OK || !bytes.Equal(k.Options, b[20:words*4]) || !bytes.Equal(p, b[words*4:]) {
				t.Errorf("Read(%x) = %v, %x, %d", b, k, p, e)
			}
		}
	}
}

// P5.3
func TestReadOfWrongLengths(t *testing.T) {
	for _, size := range []int{20, 21, 24, 255, 256, 257, 300, 1499, 1500, 1501, 1502, 2000, 65535} {
		for _, told := range []int{0, 1, 19, 20, size - 256, size - 1, size, size + 1, size + 256, 1500, 1501, 65535} {
			b := bytesOf(size)
			b[0] = 69
			binary.BigEndian.PutUint16(b[2:], uint16(told))
			b = summed(b)
			if told == size && size <= 1500 {
				holdAny(t, b)
				if _, _, e := head.Read(b); e != api.OK {
					t.Errorf("Read of %d bytes = %d", size, e)
				}
			} else if uint16(told) != uint16(size) || size > 1500 {
				holdNot(t, b, api.ErrLength)
			}
		}
	}
	// So many bytes that two bytes tell them only as far as they reach.
	for _, size := range []int{65536 + 20, 65536 + 1500, 2*65536 + 300} {
		b := bytesOf(size)
		b[0] = 69
		binary.BigEndian.PutUint16(b[2:], uint16(size))
		holdNot(t, summed(b), api.ErrLength)
	}
	b := makeOf(some(), bytesOf(30))
	holdNot(t, b[:len(b)-1], api.ErrLength)
	holdNot(t, append(slices.Clone(b), 0), api.ErrLength)
}

// turned is a copy with a bit turned, the first byte's highest being bit 0.
func turned(b []byte, bit int) []byte {
	out := slices.Clone(b)
	out[bit/8] ^= 128 >> (bit % 8)
	return out
}

// P5.3
func TestReadWithEachBitTurned(t *testing.T) {
	from := rand.New(rand.NewSource(53))
	for range 60 {
		h := anyHead(from)
		payload := make([]byte, from.Intn(50))
		from.Read(payload)
		b := makeOf(h, payload)
		for bit := range len(b) * 8 {
			x := turned(b, bit)
			switch at := bit / 8; {
			case bit < 4:
				holdNot(t, x, api.ErrVersion)
			case at == 0:
				// Another W: what it is then hangs on the bytes.
				holdAny(t, x)
			case at == 2 || at == 3:
				holdNot(t, x, api.ErrLength)
			case at < 20+len(h.Options):
				holdNot(t, x, api.ErrSum)
			default:
				// The payload is in no sum.
				holdRead(t, x, h, x[20+len(h.Options):])
			}
		}
	}
}

// P5.3: of a header of five words without a payload, a bit turned in W leaves no length that can be.
func TestReadWithWTurned(t *testing.T) {
	b := makeOf(api.Head{ID: 5}, nil)
	for bit := 4; bit < 8; bit++ {
		holdNot(t, turned(b, bit), api.ErrLength)
	}
}

// P5.3: where faults come together, the first of the named ones is told.
func TestReadOfTwoFaults(t *testing.T) {
	whole := makeOf(some(), bytesOf(10))
	with := func(b []byte, changes ...int) []byte {
		out := slices.Clone(b)
		for i := 0; i < len(changes); i += 2 {
			out[changes[i]] = byte(changes[i+1])
		}
		return out
	}
	for _, c := range []struct {
		b    []byte
		want api.Errno
	}{
		{with(whole[:19], 0, 0x60), api.ErrShort},
		{with(whole[:19], 0, 0x44), api.ErrShort},
		{with(whole[:19], 12, 99), api.ErrShort},
		{with(whole[:1], 0, 80), api.ErrShort},
		{with(whole, 0, 0x64), api.ErrVersion},
		{with(whole, 0, 0x3f), api.ErrVersion},
		{with(whole, 0, 0x50), api.ErrVersion},
		{with(whole, 0, 0x66, 3, 99), api.ErrVersion},
		{with(whole, 0, 0x66, 12, 99), api.ErrVersion},
		{with(whole[:20], 0, 0xff), api.ErrVersion},
		{make([]byte, 2000), api.ErrVersion},
		{make([]byte, 20), api.ErrVersion},
		{with(whole, 0, 0x44, 12, 99), api.ErrLength},
		{with(whole, 0, 0x44, 3, 99), api.ErrLength},
		{with(whole, 0, 0x40), api.ErrLength},
		{with(whole, 0, 0x4f, 12, 99), api.ErrLength},
		{with(whole, 3, 33, 12, 99), api.ErrLength},
		{with(whole, 3, 35, 12, 99), api.ErrLength},
		{with(whole[:20], 12, 99), api.ErrLength},
		{with(whole, 12, 99), api.ErrSum},
	} {
		holdNot(t, c.b, c.want)
	}
}

// P5.3 and P5.4, and P1: whatever the bytes are.
func TestReadOfAnyBytes(t *testing.T) {
	from := rand.New(rand.NewSource(54))
	for range 100000 {
		b := make([]byte, from.Intn(90))
		from.Read(b)
		holdAny(t, b)
		if len(b) < 4 {
			continue
		}
		b[0] = byte(60 + from.Intn(24))
		b[2], b[3] = 0, byte(len(b)+max(0, from.Intn(8)-6))
		holdAny(t, b)
		holdAny(t, summed(b))
	}
}

// P5.4
func TestHopOfAllTTLs(t *testing.T) {
	for _, payload := range [][]byte{nil, bytesOf(7), bytesOf(1476)} {
		h := some()
		for ttl := range 256 {
			h.TTL = ttl
			x, e := head.Hop(makeOf(h, payload))
			if ttl == 0 {
				if e != api.ErrHead || len(x) != 0 {
					t.Errorf("Hop with a TTL of 0 = %x, %d", x, e)
				}
				continue
			}
			h.TTL--
			if e != api.OK || !bytes.Equal(x, makeOf(h, payload)) {
				t.Errorf("Hop with a TTL of %d = %x, %d", ttl, x, e)
			}
			holdRead(t, x, h, payload)
		}
	}
}

// P5.4: one hop behind the other, till there is none.
func TestHopTillTheEnd(t *testing.T) {
	h := some()
	h.TTL = 255
	b := makeOf(h, bytesOf(3))
	for ttl := 254; ttl >= 0; ttl-- {
		x, e := head.Hop(b)
		if e != api.OK || int(x[8]) != ttl {
			t.Fatalf("Hop(%x) = %x, %d", b, x, e)
		}
		b = x
	}
	if x, e := head.Hop(b); e != api.ErrHead || len(x) != 0 {
		t.Errorf("Hop(%x) = %x, %d", b, x, e)
	}
}

// P5.4: of bytes that Read refuses, a TTL of 0 tells nothing.
func TestHopOfWrongBytes(t *testing.T) {
	h := some()
	h.TTL = 0
	b := makeOf(h, bytesOf(6))
	for _, c := range []struct {
		b    []byte
		want api.Errno
	}{
		{nil, api.ErrShort},
		{b[:19], api.ErrShort},
		{turned(b, 1), api.ErrVersion},
		{b[:len(b)-1], api.ErrLength},
		{turned(b, 8*3), api.ErrLength},
		{turned(b, 8*9), api.ErrSum},
	} {
		holdNot(t, c.b, c.want)
	}
}

// roomy are the same bytes at the beginning of greater room, and all of that room.
func roomy(b []byte) ([]byte, []byte) {
	all := append(slices.Clone(b), bytes.Repeat([]byte{0x5a}, 40)...)
	return all[:len(b)], all
}

// spoil writes over bytes, spare room included.
func spoil(b []byte) {
	b = b[:cap(b)]
	for i := range b {
		b[i] ^= 0xa5
	}
}

func TestMakeSharesNothing(t *testing.T) {
	for _, n := range []int{0, 4, 40} {
		for _, size := range []int{0, 1, 50, 1500 - 20 - n, 1500} {
			h := some()
			options, room := roomy(bytesOf(n))
			payload, spare := roomy(bytesOf(size))
			h.Options = options
			was, spareWas := slices.Clone(room), slices.Clone(spare)
			b, e := head.Make(h, payload)
			if !bytes.Equal(room, was) || !bytes.Equal(spare, spareWas) {
				t.Errorf("Make with %d and %d bytes changes them", n, size)
			}
			if e != api.OK {
				continue
			}
			want := slices.Clone(b)
			spoil(room)
			spoil(spare)
			if !bytes.Equal(b, want) {
				t.Errorf("Make with %d and %d bytes keeps them", n, size)
			}
			was, spareWas = slices.Clone(room), slices.Clone(spare)
			spoil(b)
			if !bytes.Equal(room, was) || !bytes.Equal(spare, spareWas) {
				t.Errorf("Make with %d and %d bytes hands them out", n, size)
			}
		}
	}
}

func TestReadSharesNothing(t *testing.T) {
	for _, n := range []int{0, 4, 40} {
		for _, size := range []int{0, 1, 50, 1500 - 20 - n} {
			h := some()
			h.Options = bytesOf(n)
			b, room := roomy(makeOf(h, bytesOf(size)))
			was := slices.Clone(room)
			k, p, e := head.Read(b)
			if e != api.OK || !bytes.Equal(room, was) {
				t.Fatalf("Read of %x changes it, or answers %d", was, e)
			}
			spoil(room)
			if !same(k, h) || !bytes.Equal(p, bytesOf(size)) {
				t.Errorf("Read of %x keeps it", was)
			}
			now := slices.Clone(room)
			spoil(k.Options)
			if !bytes.Equal(p, bytesOf(size)) || !bytes.Equal(room, now) {
				t.Errorf("Options of %x are shared", was)
			}
			options := slices.Clone(k.Options)
			spoil(p)
			if !bytes.Equal(k.Options, options) || !bytes.Equal(room, now) {
				t.Errorf("the payload of %x is shared", was)
			}
		}
	}
}

func TestSumAndHopShareNothing(t *testing.T) {
	refused := makeOf(some(), bytesOf(5))
	refused[12] ^= 1
	last := some()
	last.TTL = 0
	for _, from := range [][]byte{nil, bytesOf(21), makeOf(some(), nil), makeOf(some(), bytesOf(61)), makeOf(some(), bytesOf(1476)), refused, makeOf(last, nil)} {
		b, room := roomy(from)
		was := slices.Clone(room)
		head.Sum(b)
		head.Read(b)
		x, _ := head.Hop(b)
		if !bytes.Equal(room, was) {
			t.Errorf("Sum, Read or Hop changes %x", was)
		}
		want := slices.Clone(x)
		spoil(room)
		if !bytes.Equal(x, want) {
			t.Errorf("Hop of %x keeps it", was)
		}
		now := slices.Clone(room)
		spoil(x)
		if !bytes.Equal(room, now) {
			t.Errorf("Hop of %x hands it out", was)
		}
	}
}
