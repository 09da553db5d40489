package crc_test

import (
	"bytes"
	"hash/crc32"
	"math"
	"math/bits"
	"math/rand"
	"slices"
	"testing"

	"floodgate/crc"
)

// some are bytes of all lengths around a sum's own, and longer ones.
func some() [][]byte {
	from := rand.New(rand.NewSource(3))
	out := [][]byte{nil, {}, {0}, {0xff}, {0x80}, {1}, []byte("123456789"), make([]byte, 64), bytes.Repeat([]byte{0xff}, 64)}
	for n := range 40 {
		b := make([]byte, n)
		from.Read(b)
		out = append(out, b)
	}
	b := make([]byte, 1500)
	from.Read(b)
	return append(out, b)
}

// mirrored is the sum by the library's, which takes each byte's lowest bit first.
func mirrored(b []byte) uint32 {
	turned := make([]byte, len(b))
	for i, c := range b {
		turned[i] = bits.Reverse8(c)
	}
	return bits.Reverse32(crc32.ChecksumIEEE(turned))
}

// sealOf is Seal by its words, with the sum of the library.
func sealOf(b []byte) []byte {
	sum := mirrored(b)
	out := slices.Clone(b)
	for place := uint32(1 << 24); place > 0; place >>= 8 {
		out = append(out, byte(sum/place))
	}
	return out
}

// bitsOf are the bits of bytes, each byte's highest first.
func bitsOf(b []byte) []bool {
	var out []bool
	for _, c := range b {
		for _, place := range []byte{128, 64, 32, 16, 8, 4, 2, 1} {
			out = append(out, c&place != 0)
		}
	}
	return out
}

// burstOf are the bits that Burst's words ask for.
func burstOf(b []byte, at int, mask uint32) []bool {
	out := bitsOf(b)
	if at < 0 {
		return out
	}
	turned := slices.Clone(out)
	for k, place := 0, uint32(1<<31); place > 0; k, place = k+1, place>>1 {
		if mask&place == 0 {
			continue
		}
		if at >= len(out)-k {
			return out
		}
		turned[at+k] = !turned[at+k]
	}
	return turned
}

func holdOf(t *testing.T, want uint32, parts ...[]byte) {
	t.Helper()
	if sum := crc.Of(parts...); sum != want {
		t.Errorf("Of(% x) = %08x, not %08x", parts, sum, want)
	}
}

func holdNone(t *testing.T, b []byte) {
	t.Helper()
	if got, ok := crc.Open(b); len(got) != 0 || ok {
		t.Errorf("Open(% x) = % x, %t, not none, false", b, got, ok)
	}
}

func holdBurst(t *testing.T, b []byte, at int, mask uint32) {
	t.Helper()
	got := crc.Burst(b, at, mask)
	if len(got) != len(b) || !slices.Equal(bitsOf(got), burstOf(b, at, mask)) {
		t.Errorf("Burst(% x, %d, %08x) = % x", b, at, mask, got)
	}
}

// P3.1
func TestOfExamples(t *testing.T) {
	holdOf(t, 0xfc891918, []byte("123456789"))
	holdOf(t, 0)
	holdOf(t, 0, nil)
	holdOf(t, 0, []byte{}, nil, []byte{})
	// Of the ones begun with, a byte of ones leaves none to take the polynomial for; a 0 at its end leaves one.
	holdOf(t, ^uint32(0xffffff00), []byte{0xff})
	holdOf(t, ^(uint32(0xffffff00) ^ 0x04c11db7), []byte{0xfe})
}

// P3.1
func TestOfAgainstTheLibrary(t *testing.T) {
	for _, b := range some() {
		holdOf(t, mirrored(b), b)
	}
	for i := range 1 << 16 {
		b := []byte{byte(i >> 8), byte(i)}
		holdOf(t, mirrored(b), b)
		holdOf(t, mirrored(b[:1]), b[:1])
	}
}

// P3.1: how the bytes are cut into parts is not to be seen in the sum.
func TestOfParts(t *testing.T) {
	for _, b := range some()[:40] {
		want := mirrored(b)
		for i := range len(b) + 1 {
			holdOf(t, want, b[:i], b[i:])
			for k := i; k <= len(b); k++ {
				holdOf(t, want, nil, b[:i], []byte{}, b[i:k], b[k:], nil)
			}
		}
		var single [][]byte
		for i := range b {
			single = append(single, b[i:i+1])
		}
		holdOf(t, want, single...)
	}
}

// P3.1: parts in another order are other bytes.
func TestOfOrder(t *testing.T) {
	if crc.Of([]byte("12"), []byte("34")) == crc.Of([]byte("34"), []byte("12")) {
		t.Error("parts are told in any order")
	}
}

// P3.1
func TestMore(t *testing.T) {
	for _, b := range some() {
		for i := range len(b) + 1 {
			if sum := crc.More(mirrored(b[:i]), b[i:]); sum != mirrored(b) {
				t.Errorf("More of the sum of %d bytes of % x = %08x, not %08x", i, b, sum, mirrored(b))
			}
		}
	}
}

// P3.1
func TestMoreOfNoBytes(t *testing.T) {
	for _, sum := range []uint32{0, 1, 1 << 31, 0xfc891918, math.MaxUint32} {
		if got := crc.More(sum, nil); got != sum {
			t.Errorf("More(%08x, nil) = %08x", sum, got)
		}
		if got := crc.More(sum, []byte{}); got != sum {
			t.Errorf("More(%08x, no bytes) = %08x", sum, got)
		}
	}
}

// P3.2
func TestSealExamples(t *testing.T) {
	for _, c := range []struct{ b, want []byte }{
		{nil, []byte{0, 0, 0, 0}},
		{[]byte{}, []byte{0, 0, 0, 0}},
		{[]byte("123456789"), []byte("123456789\xfc\x89\x19\x18")},
	} {
		if b := crc.Seal(c.b); !bytes.Equal(b, c.want) {
			t.Errorf("Seal(% x) = % x, not % x", c.b, b, c.want)
		}
		if b, ok := crc.Open(c.want); !bytes.Equal(b, c.b) || !ok {
			t.Errorf("Open(% x) = % x, %t", c.want, b, ok)
		}
	}
}

// P3.2
func TestSealAndOpen(t *testing.T) {
	for _, b := range some() {
		want := sealOf(b)
		if x := crc.Seal(b); !bytes.Equal(x, want) {
			t.Errorf("Seal(% x) = % x, not % x", b, x, want)
		}
		if x, ok := crc.Open(want); !bytes.Equal(x, b) || !ok {
			t.Errorf("Open(% x) = % x, %t", want, x, ok)
		}
		// What is sealed may be a Seal itself.
		twice := sealOf(want)
		if x, ok := crc.Open(twice); !bytes.Equal(x, want) || !ok {
			t.Errorf("Open(% x) = % x, %t", twice, x, ok)
		}
	}
}

// P3.2
func TestOpenOfTooFewBytes(t *testing.T) {
	for _, b := range [][]byte{nil, {}, {0}, {0, 0}, {0, 0, 0}, {0xff, 0xff, 0xff}, {1, 2, 3}} {
		holdNone(t, b)
	}
	// The bytes behind the end are there, but not handed in.
	for n := range 4 {
		holdNone(t, []byte{0, 0, 0, 0}[:n])
	}
}

// P3.2
func TestOpenOfWrongSeals(t *testing.T) {
	for _, b := range [][]byte{{0, 0, 0, 1}, {1, 0, 0, 0}, {0xff, 0xff, 0xff, 0xff}, {1, 0, 0, 0, 0}, {0, 0, 0, 0, 0}} {
		holdNone(t, b)
	}
	for _, b := range some() {
		x := sealOf(b)
		for i := range x {
			for place := range 8 {
				wrong := slices.Clone(x)
				wrong[i] ^= 1 << place
				holdNone(t, wrong)
			}
		}
		sum := x[len(b):]
		if turned := append(slices.Clone(b), sum[3], sum[2], sum[1], sum[0]); !bytes.Equal(turned, x) {
			holdNone(t, turned)
		}
	}
}

// P3.2: a Seal with a byte too many or too few, which by chance may be another one's Seal.
func TestOpenOfSealsOfAnotherLength(t *testing.T) {
	for _, b := range some() {
		x := sealOf(b)
		for last := range 256 {
			holdAsSealed(t, append(slices.Clone(x), byte(last)))
			holdAsSealed(t, append([]byte{byte(last)}, x...))
		}
		holdAsSealed(t, x[:len(x)-1])
		holdAsSealed(t, x[1:])
	}
}

// holdAsSealed holds Open against what the library's sum says of the bytes.
func holdAsSealed(t *testing.T, b []byte) {
	t.Helper()
	if len(b) < 4 || !bytes.Equal(sealOf(b[:len(b)-4]), b) {
		holdNone(t, b)
		return
	}
	if got, ok := crc.Open(b); !bytes.Equal(got, b[:len(b)-4]) || !ok {
		t.Errorf("Open(% x) = % x, %t", b, got, ok)
	}
}

// P3.3
func TestBurstExamples(t *testing.T) {
	for _, c := range []struct {
		b    []byte
		at   int
		mask uint32
		want []byte
	}{
		{[]byte{0, 0, 0}, 7, 0xc0000000, []byte{1, 128, 0}},
		{[]byte{0xff, 0xff, 0xff}, 7, 0xc0000000, []byte{0xfe, 127, 0xff}},
		// The first and the last bit.
		{[]byte{0}, 0, 1 << 31, []byte{128}},
		{[]byte{0}, 7, 1 << 31, []byte{1}},
		{[]byte{0}, 8, 1 << 31, []byte{0}},
		{[]byte{0}, 0, 1 << 24, []byte{1}},
		{[]byte{0}, 0, 1 << 23, []byte{0}},
		{[]byte{0}, 0, 0xff000000, []byte{0xff}},
		{[]byte{0}, 1, 0xff000000, []byte{0}},
		{[]byte{0}, 0, 0xff800000, []byte{0}},
		{[]byte{0, 0, 0, 0}, 0, 0x12345678, []byte{0x12, 0x34, 0x56, 0x78}},
		{[]byte{0, 0, 0, 0}, 1, 0x12345678, []byte{0x09, 0x1a, 0x2b, 0x3c}},
		{[]byte{0, 0, 0, 0}, 3, 0x12345678, []byte{0x02, 0x46, 0x8a, 0xcf}},
		{[]byte{0, 0, 0, 0}, 4, 0x12345678, []byte{0, 0, 0, 0}},
		{[]byte{0, 0, 0, 0, 0}, 4, 0x12345678, []byte{0x01, 0x23, 0x45, 0x67, 0x80}},
		{[]byte{0, 0, 0, 0, 0}, 8, 0xffffffff, []byte{0, 0xff, 0xff, 0xff, 0xff}},
		{[]byte{0, 0, 0, 0, 0}, 9, 0xffffffff, []byte{0, 0, 0, 0, 0}},
		{[]byte{5, 6}, 3, 0, []byte{5, 6}},
		{[]byte{5, 6}, -1, 0, []byte{5, 6}},
		{[]byte{5, 6}, -1, 1, []byte{5, 6}},
		// Bits that lie within do not turn either, if at is below 0.
		{[]byte{5, 6}, -1, 1 << 30, []byte{5, 6}},
		{[]byte{5, 6}, -8, 1 << 23, []byte{5, 6}},
		{[]byte{5, 6}, math.MaxInt, 1 << 31, []byte{5, 6}},
		{[]byte{5, 6}, math.MaxInt, 1, []byte{5, 6}},
		{[]byte{5, 6}, math.MaxInt, 0, []byte{5, 6}},
		{[]byte{5, 6}, math.MaxInt - 31, 1, []byte{5, 6}},
		{[]byte{5, 6}, math.MinInt, 1 << 31, []byte{5, 6}},
		{nil, 0, 1 << 31, nil},
		{nil, 0, 0, nil},
	} {
		if b := crc.Burst(c.b, c.at, c.mask); !bytes.Equal(b, c.want) {
			t.Errorf("Burst(% x, %d, %08x) = % x, not % x", c.b, c.at, c.mask, b, c.want)
		}
	}
}

// masks are such of one bit, of two, of all up to one, and some others.
func masks() []uint32 {
	from := rand.New(rand.NewSource(33))
	out := []uint32{0, 0x04c11db7, 0x82608edb, 0xffffffff, 0x55555555, 0xaaaaaaaa}
	for k := range 32 {
		out = append(out, 1<<k, 1<<31|1<<k, 1<<k|1, math.MaxUint32<<k, math.MaxUint32>>k, from.Uint32(), from.Uint32()|1<<31|1)
	}
	return out
}

// P3.3
func TestBurstAtAllPlaces(t *testing.T) {
	for _, b := range some()[:25] {
		for _, mask := range masks() {
			for at := -33; at <= 8*len(b)+1; at++ {
				holdBurst(t, b, at, mask)
			}
		}
	}
	for _, mask := range masks() {
		for _, at := range []int{math.MaxInt, math.MaxInt - 1, math.MaxInt - 31, math.MaxInt - 32, math.MinInt, math.MinInt + 1, 1 << 32, 1 << 33, 1 << 35} {
			holdBurst(t, nil, at, mask)
			holdBurst(t, []byte{1, 2, 3, 4, 5, 6}, at, mask)
		}
	}
}

// P3.4
func TestBurstSpoilsASeal(t *testing.T) {
	for _, b := range some()[:30] {
		x := crc.Seal(b)
		for _, mask := range masks() {
			for at := -2; at <= 8*len(x); at++ {
				got := crc.Burst(x, at, mask)
				inner, ok := crc.Open(got)
				if same := bytes.Equal(got, x); ok != same {
					t.Fatalf("Open(% x) = % x, %t, a burst of % x at %d by %08x", got, inner, ok, x, at, mask)
				}
				if mask != 0 && at >= 0 && at <= 8*len(x)-32 && ok {
					t.Fatalf("% x is as it was behind a burst at %d by %08x", x, at, mask)
				}
			}
		}
	}
}

// spoil writes over all that a list has, spare room included.
func spoil(b []byte) {
	b = b[:cap(b)]
	for i := range b {
		b[i] ^= 0x55
	}
}

// What is handed in is not changed, spare room included, and no answer shares any of it.
func TestNothingIsShared(t *testing.T) {
	whole := append(crc.Seal([]byte("a packet")), 1, 2, 3, 4, 5, 6, 7, 8)
	kept := slices.Clone(whole)
	for _, call := range []func(b []byte) []byte{
		func(b []byte) []byte { crc.Of(b[:4], b[4:]); return nil },
		func(b []byte) []byte { crc.More(7, b); return nil },
		crc.Seal,
		func(b []byte) []byte { x, _ := crc.Open(b); return x },
		func(b []byte) []byte { return crc.Burst(b, 3, 0xf000000f) },
		func(b []byte) []byte { return crc.Burst(b, 3, 0) },
		func(b []byte) []byte { return crc.Burst(b, -1, 1<<31) },
		func(b []byte) []byte { return crc.Burst(b, 8*len(b), 1<<31) },
	} {
		first := call(whole[:12])
		want := slices.Clone(first)
		second := call(whole[:12])
		spoil(first)
		if !bytes.Equal(whole, kept) {
			t.Fatalf("what was handed in is now % x", whole)
		}
		spoil(whole)
		if !bytes.Equal(second, want) {
			t.Errorf("an answer is now % x, not % x", second, want)
		}
		copy(whole, kept)
	}
	parts := [][]byte{[]byte("12"), nil, []byte("3")}
	crc.Of(parts[:2]...)
	if string(parts[0]) != "12" || parts[1] != nil || string(parts[2]) != "3" {
		t.Errorf("the parts handed in are now %q", parts)
	}
}
