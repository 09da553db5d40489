package leb_test

import (
	"bytes"
	"math"
	"math/big"
	"slices"
	"testing"

	"floodgate/api"
	"floodgate/leb"
)

const greatest = uint64(math.MaxUint64)

// pair is a number, and the bytes that the document asks for it.
type pair struct {
	n uint64
	b []byte
}

var pairs = []pair{
	{0, []byte{0}},
	{1, []byte{1}},
	{5, []byte{5}},
	{127, []byte{0x7f}},
	{128, []byte{0x80, 1}},
	{129, []byte{0x81, 1}},
	{255, []byte{0xff, 1}},
	{256, []byte{0x80, 2}},
	{300, []byte{0xac, 2}},
	{1<<14 - 1, []byte{0xff, 0x7f}},
	{1 << 14, []byte{0x80, 0x80, 1}},
	{1<<21 - 1, []byte{0xff, 0xff, 0x7f}},
	{1 << 21, []byte{0x80, 0x80, 0x80, 1}},
	{0x12345, []byte{0xc5, 0xc6, 4}},
	{1<<32 - 1, []byte{0xff, 0xff, 0xff, 0xff, 15}},
	{1 << 32, []byte{0x80, 0x80, 0x80, 0x80, 16}},
	{api.MaxValue, []byte{0x80, 0x80, 0x80, 0x80, 0x80, 0x80, 0x40}},
	{1<<63 - 1, []byte{0xff, 0xff, 0xff, 0xff, 0xff, 0xff, 0xff, 0xff, 0x7f}},
	{1 << 63, []byte{0x80, 0x80, 0x80, 0x80, 0x80, 0x80, 0x80, 0x80, 0x80, 1}},
	{greatest - 1, []byte{0xfe, 0xff, 0xff, 0xff, 0xff, 0xff, 0xff, 0xff, 0xff, 1}},
	{greatest, []byte{0xff, 0xff, 0xff, 0xff, 0xff, 0xff, 0xff, 0xff, 0xff, 1}},
}

// edges are all numbers beside which a further bit or byte comes in.
func edges() []uint64 {
	out := []uint64{0, 300, greatest - 1, greatest}
	for n := range 64 {
		first := uint64(1) << n
		out = append(out, first-1, first, first+1)
	}
	return out
}

// spelt is Put by its words: what is left over at each division by 128, with the highest bit set where more comes.
func spelt(n uint64) []byte {
	out := []byte{byte(n % 128)}
	for n /= 128; n > 0; n /= 128 {
		out[len(out)-1] += 128
		out = append(out, byte(n%128))
	}
	return out
}

func holdGet(t *testing.T, b []byte, n uint64, used int) {
	t.Helper()
	if gotN, gotUsed, err := leb.Get(b); gotN != n || gotUsed != used || err != api.OK {
		t.Errorf("Get(% x) = %d, %d, %d, not %d, %d", b, gotN, gotUsed, err, n, used)
	}
}

func holdNone(t *testing.T, b []byte) {
	t.Helper()
	if n, used, err := leb.Get(b); n != 0 || used != 0 || err != api.ErrLeb {
		t.Errorf("Get(% x) = %d, %d, %d, not 0, 0, ErrLeb", b, n, used, err)
	}
}

// P2.1
func TestPutSizeGetExamples(t *testing.T) {
	for _, c := range pairs {
		if b := leb.Put(c.n); !bytes.Equal(b, c.b) {
			t.Errorf("Put(%d) = % x, not % x", c.n, b, c.b)
		}
		if n := leb.Size(c.n); n != len(c.b) {
			t.Errorf("Size(%d) = %d, not %d", c.n, n, len(c.b))
		}
		holdGet(t, c.b, c.n, len(c.b))
	}
}

// P2.1
func TestPutSizeGetAtEdges(t *testing.T) {
	for _, n := range edges() {
		want := spelt(n)
		if b := leb.Put(n); !bytes.Equal(b, want) {
			t.Errorf("Put(%d) = % x, not % x", n, b, want)
		}
		if size := leb.Size(n); size != len(want) {
			t.Errorf("Size(%d) = %d, not %d", n, size, len(want))
		}
		holdGet(t, want, n, len(want))
	}
}

// P2.1
func TestSizeAtPowersOf128(t *testing.T) {
	for k := 1; k <= 9; k++ {
		first := uint64(1) << (7 * k)
		if n := leb.Size(first - 1); n != k {
			t.Errorf("Size(%d) = %d, not %d", first-1, n, k)
		}
		if n := leb.Size(first); n != k+1 {
			t.Errorf("Size(%d) = %d, not %d", first, n, k+1)
		}
	}
}

// P2.1: what stands behind the number is not looked at.
func TestGetWithBytesBehind(t *testing.T) {
	tails := [][]byte{{0}, {1}, {0x7f}, {0x80}, {0xff}, {0x80, 0}, {7, 8, 9}, bytes.Repeat([]byte{0xff}, 40)}
	for _, n := range edges() {
		b := spelt(n)
		for _, tail := range tails {
			holdGet(t, append(slices.Clip(b), tail...), n, len(b))
		}
	}
}

// P2.1: bytes that end before their number does.
func TestGetOfBytesThatEndTooEarly(t *testing.T) {
	holdNone(t, nil)
	holdNone(t, []byte{})
	for _, n := range edges() {
		b := spelt(n)
		for i := range b {
			// The bytes behind the end are there, but not handed in.
			holdNone(t, b[:i])
		}
	}
	for n := range 20 {
		holdNone(t, bytes.Repeat([]byte{0x80}, n))
		holdNone(t, bytes.Repeat([]byte{0xff}, n))
	}
}

// P2.1: bytes that are more than their number needs.
func TestGetOfNeedlessBytes(t *testing.T) {
	for _, n := range edges() {
		b := spelt(n)
		b[len(b)-1] |= 0x80
		for range 12 {
			holdNone(t, append(slices.Clip(b), 0))
			holdNone(t, append(slices.Clip(b), 0, 5))
			b = append(b, 0x80)
		}
	}
}

// P2.1: bytes whose number is above the greatest.
func TestGetOfNumbersThatAreTooGreat(t *testing.T) {
	for _, first := range []byte{0x80, 0x81, 0xaa, 0xff} {
		for last := range 256 {
			b := append(bytes.Repeat([]byte{first}, 9), byte(last))
			if last == 1 {
				holdGet(t, b, readAny(b).Uint64(), 10)
				continue
			}
			holdNone(t, b)
			holdNone(t, append(b, 0))
			holdNone(t, append(b, 1))
		}
	}
	for n := 10; n < 30; n++ {
		for _, last := range []byte{0, 1, 2, 0x7f} {
			holdNone(t, append(bytes.Repeat([]byte{0x80}, n), last))
			holdNone(t, append(bytes.Repeat([]byte{0xff}, n), last))
		}
	}
}

// readAny is the whole number, of any size, that groups of seven bits make.
func readAny(b []byte) *big.Int {
	out := new(big.Int)
	for i, c := range b {
		part := big.NewInt(int64(c & 0x7f))
		out.Or(out, part.Lsh(part, uint(7*i)))
	}
	return out
}

// P2.1: of all two bytes, Get takes those that begin with some number's Put, and no others.
func TestGetOfAllTwoBytes(t *testing.T) {
	puts := map[string]uint64{}
	for n := range uint64(1 << 14) {
		puts[string(spelt(n))] = n
	}
	for i := range 1 << 16 {
		b := []byte{byte(i), byte(i >> 8)}
		if n, ok := puts[string(b[:1])]; ok {
			holdGet(t, b, n, 1)
		} else if n, ok := puts[string(b)]; ok {
			holdGet(t, b, n, 2)
		} else {
			holdNone(t, b)
		}
	}
}

// P2.2
func TestNums(t *testing.T) {
	for _, c := range []struct {
		l []uint64
		b []byte
	}{
		{nil, nil},
		{[]uint64{}, nil},
		{[]uint64{0}, []byte{0}},
		{[]uint64{0, 0}, []byte{0, 0}},
		{[]uint64{1, 200, 3}, []byte{1, 0xc8, 1, 3}},
		{[]uint64{300, 0, 300}, []byte{0xac, 2, 0, 0xac, 2}},
		{[]uint64{127, 128}, []byte{0x7f, 0x80, 1}},
	} {
		if b := leb.Nums(c.l...); !bytes.Equal(b, c.b) {
			t.Errorf("Nums(%d) = % x, not % x", c.l, b, c.b)
		}
		if l, err := leb.All(c.b); !slices.Equal(l, c.l) || err != api.OK {
			t.Errorf("All(% x) = %d, %d, not %d", c.b, l, err, c.l)
		}
	}
	if b := leb.Nums(); len(b) != 0 {
		t.Errorf("Nums() = % x", b)
	}
	if b := leb.Nums(1, 200, 3); !bytes.Equal(b, []byte{1, 0xc8, 1, 3}) {
		t.Errorf("Nums(1, 200, 3) = % x", b)
	}
}

// P2.2: Nums has no bound, All takes up to MaxNums numbers.
func TestNumsAndAllByLength(t *testing.T) {
	some := edges()
	for n := range 300 {
		var l []uint64
		var b []byte
		for i := range n {
			l = append(l, some[(i*7+n)%len(some)])
			b = append(b, spelt(l[i])...)
		}
		if x := leb.Nums(l...); !bytes.Equal(x, b) {
			t.Errorf("Nums of %d numbers = % x, not % x", n, x, b)
		}
		got, err := leb.All(b)
		if n <= 128 && (!slices.Equal(got, l) || err != api.OK) {
			t.Errorf("All of %d numbers = %d, %d, not %d", n, got, err, l)
		}
		if n > 128 && (len(got) != 0 || err != api.ErrLeb) {
			t.Errorf("All of %d numbers = %d, %d, not ErrLeb", n, got, err)
		}
	}
}

// P2.2: bytes that are no numbers' Nums, wherever the fault is.
func TestAllOfWrongBytes(t *testing.T) {
	full := make([]byte, 128)
	for _, b := range [][]byte{
		{0x80},
		{1, 2, 0x80},
		{1, 2, 0xff, 0xff},
		{0x80, 0},
		{1, 0x80, 0, 3},
		{1, 2, 0x80, 0},
		{1, 0xff, 0xff, 0xff, 0xff, 0xff, 0xff, 0xff, 0xff, 0xff, 2},
		{0xff, 0xff, 0xff, 0xff, 0xff, 0xff, 0xff, 0xff, 0xff, 3, 1},
		{0x80, 0x80, 0x80, 0x80, 0x80, 0x80, 0x80, 0x80, 0x80, 0x80, 1},
		make([]byte, 129),
		make([]byte, 1<<20),
		append(slices.Clip(full), 0x80),
		append(slices.Clip(full), 0x80, 1),
		append(slices.Clip(full[:127]), 0x80, 0),
	} {
		if l, err := leb.All(b); len(l) != 0 || err != api.ErrLeb {
			t.Errorf("All of %d bytes = %d, %d, not ErrLeb", len(b), l, err)
		}
	}
}

// P2.3
func TestZigZag(t *testing.T) {
	for _, c := range []struct {
		n int
		u uint64
	}{
		{0, 0}, {-1, 1}, {1, 2}, {-2, 3}, {2, 4}, {-3, 5}, {64, 128}, {-64, 127},
		{math.MaxInt32, 1<<32 - 2}, {math.MinInt32, 1<<32 - 1},
		{math.MaxInt - 1, greatest - 3}, {math.MinInt + 1, greatest - 2},
		{math.MaxInt, greatest - 1}, {math.MinInt, greatest},
	} {
		if u := leb.Zig(c.n); u != c.u {
			t.Errorf("Zig(%d) = %d, not %d", c.n, u, c.u)
		}
		if n := leb.Zag(c.u); n != c.n {
			t.Errorf("Zag(%d) = %d, not %d", c.u, n, c.n)
		}
	}
}

// zigAny is Zig by its words, of whole numbers of any size.
func zigAny(n int) uint64 {
	whole := big.NewInt(int64(n))
	if n < 0 {
		whole.Neg(whole)
		return whole.Lsh(whole, 1).Sub(whole, big.NewInt(1)).Uint64()
	}
	return whole.Lsh(whole, 1).Uint64()
}

// P2.3
func TestZigZagAtEdges(t *testing.T) {
	for _, u := range edges() {
		for _, n := range []int{int(u), -int(u)} {
			want := zigAny(n)
			if x := leb.Zig(n); x != want {
				t.Errorf("Zig(%d) = %d, not %d", n, x, want)
			}
			if x := leb.Zag(want); x != n {
				t.Errorf("Zag(%d) = %d, not %d", want, x, n)
			}
		}
		if x := zigAny(leb.Zag(u)); x != u {
			t.Errorf("Zag(%d) = %d, whose Zig is %d", u, leb.Zag(u), x)
		}
	}
}

// What is handed in is not changed, and an answer is new memory, spare room included.
func TestNothingIsShared(t *testing.T) {
	given := []byte{0xac, 2, 5, 9, 9}
	kept := slices.Clone(given)
	numbers := []uint64{300, 5, 9, 9}
	leb.Get(given[:3])
	l, _ := leb.All(given[:3])
	b := leb.Nums(numbers[:2]...)
	if !bytes.Equal(given, kept) || !slices.Equal(numbers, []uint64{300, 5, 9, 9}) {
		t.Errorf("what was handed in is now % x and %d", given, numbers)
	}
	clear(given)
	clear(numbers)
	if !slices.Equal(l, []uint64{300, 5}) || !bytes.Equal(b, kept[:3]) {
		t.Errorf("the answers are now %d and % x", l, b)
	}
	for _, n := range []uint64{0, 5, 300} {
		first := leb.Put(n)
		for i := range first[:cap(first)] {
			first[:cap(first)][i] = 0x55
		}
		if second := leb.Put(n); !bytes.Equal(second, spelt(n)) {
			t.Errorf("Put(%d) = % x behind another one that was written over", n, second)
		}
	}
}
