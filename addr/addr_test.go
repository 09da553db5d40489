package addr_test

import (
	"fmt"
	"math"
	"math/rand"
	"net/netip"
	"strings"
	"testing"

	"floodgate/addr"
	"floodgate/api"
)

// everyBits are the Bits of networks and the bits of masks, those that cannot be included.
func everyBits() []int {
	out := []int{math.MinInt, math.MinInt + 1, math.MinInt32, -1 << 32, -256, -33, -32, -31, -8, -2, -1}
	for n := range 35 {
		out = append(out, n)
	}
	return append(out, 40, 63, 64, 65, 96, 128, 255, 256, 264, 1<<32, 1<<32+8, math.MaxInt32, math.MaxInt-1, math.MaxInt)
}

// some are NUMBERs: the ends, one bit, all bits but one, those that begin or end with ones, and others.
func some() []uint32 {
	from := rand.New(rand.NewSource(4))
	out := []uint32{0, 1, math.MaxUint32, math.MaxUint32 - 1, 0x0a010203, 0x0a000000, 0xc0a8014d, 0x01020304, 0x04030201, 0x00ff00ff, 0xff00ff00}
	for k := range 32 {
		out = append(out, 1<<k, ^(uint32(1) << k), math.MaxUint32<<k, math.MaxUint32>>k, from.Uint32())
	}
	return out
}

// bitsOf are an address's bits as signs, the first byte's highest first.
func bitsOf(a api.Addr) string {
	return fmt.Sprintf("%08b%08b%08b%08b", a[0], a[1], a[2], a[3])
}

// counted is how many bits count, by Mask's words.
func counted(bits int) int {
	if bits < 0 {
		return 0
	}
	if bits > 32 {
		return 32
	}
	return bits
}

// rightOf is RIGHT by its words, on the bits one by one.
func rightOf(n api.Net) bool {
	return n.Bits >= 0 && n.Bits <= 32 && !strings.Contains(bitsOf(n.Addr)[n.Bits:], "1")
}

// netOf is a network of a NUMBER.
func netOf(n uint32, bits int) api.Net {
	return api.Net{Addr: api.Addr{byte(n / (1 << 24)), byte(n / (1 << 16) % 256), byte(n / 256 % 256), byte(n % 256)}, Bits: bits}
}

// P4.1
func TestOfAndNum(t *testing.T) {
	for _, c := range []struct {
		n uint32
		a api.Addr
	}{
		{0, api.Addr{}},
		{1, api.Addr{0, 0, 0, 1}},
		{255, api.Addr{0, 0, 0, 255}},
		{256, api.Addr{0, 0, 1, 0}},
		{1 << 16, api.Addr{0, 1, 0, 0}},
		{1 << 24, api.Addr{1, 0, 0, 0}},
		{1 << 31, api.Addr{128, 0, 0, 0}},
		{0x01020304, api.Addr{1, 2, 3, 4}},
		{0xc0a8014d, api.Addr{192, 168, 1, 77}},
		{math.MaxUint32 - 1, api.Addr{255, 255, 255, 254}},
		{math.MaxUint32, api.Addr{255, 255, 255, 255}},
	} {
		if a := addr.Of(c.n); a != c.a {
			t.Errorf("Of(%08x) = %v, not %v", c.n, a, c.a)
		}
		if n := addr.Num(c.a); n != c.n {
			t.Errorf("Num(%v) = %08x, not %08x", c.a, n, c.n)
		}
	}
}

// P4.1
func TestOfAndNumOfEachOther(t *testing.T) {
	for _, n := range some() {
		a := addr.Of(n)
		if a != netOf(n, 0).Addr || bitsOf(a) != fmt.Sprintf("%032b", n) {
			t.Errorf("Of(%08x) = %v", n, a)
		}
		if got := addr.Num(a); got != n {
			t.Errorf("Num(%v) = %08x, not %08x", a, got, n)
		}
	}
}

// P4.1
func TestMaskExamples(t *testing.T) {
	for _, c := range []struct {
		bits int
		want api.Addr
	}{
		{math.MinInt, api.Addr{}},
		{-1, api.Addr{}},
		{0, api.Addr{}},
		{1, api.Addr{128, 0, 0, 0}},
		{7, api.Addr{254, 0, 0, 0}},
		{8, api.Addr{255, 0, 0, 0}},
		{9, api.Addr{255, 128, 0, 0}},
		{20, api.Addr{255, 255, 240, 0}},
		{31, api.Addr{255, 255, 255, 254}},
		{32, api.Addr{255, 255, 255, 255}},
		{33, api.Addr{255, 255, 255, 255}},
		{math.MaxInt, api.Addr{255, 255, 255, 255}},
	} {
		if a := addr.Mask(c.bits); a != c.want {
			t.Errorf("Mask(%d) = %v, not %v", c.bits, a, c.want)
		}
	}
}

// P4.1
func TestMaskOfAllBits(t *testing.T) {
	for _, bits := range everyBits() {
		ones := counted(bits)
		want := strings.Repeat("1", ones) + strings.Repeat("0", 32-ones)
		if got := bitsOf(addr.Mask(bits)); got != want {
			t.Errorf("Mask(%d) has the bits %s", bits, got)
		}
	}
}

// P4.1
func TestRightExamples(t *testing.T) {
	for _, c := range []struct {
		n    api.Net
		want bool
	}{
		{api.Net{}, true},
		{netOf(0, 32), true},
		{netOf(0, -1), false},
		{netOf(0, 33), false},
		{netOf(0, math.MinInt), false},
		{netOf(0, math.MaxInt), false},
		{netOf(math.MaxUint32, 32), true},
		{netOf(math.MaxUint32, 33), false},
		{netOf(math.MaxUint32, 31), false},
		{netOf(math.MaxUint32-1, 31), true},
		{netOf(1, 0), false},
		{netOf(1, -1), false},
		{netOf(1<<31, 0), false},
		{netOf(1<<31, 1), true},
		{netOf(0x0a000000, 8), true},
		{netOf(0x0a000000, 7), true},
		{netOf(0x0a000000, 6), false},
		{netOf(0x0a800000, 8), false},
		{netOf(0x0a000001, 8), false},
		{netOf(0x0a000001, 31), false},
		{netOf(0x0a000001, 32), true},
	} {
		if ok := addr.Right(c.n); ok != c.want {
			t.Errorf("Right(%v) = %t", c.n, ok)
		}
	}
}

// P4.1
func TestRightOfAllBits(t *testing.T) {
	for _, n := range some() {
		for _, bits := range everyBits() {
			x := netOf(n, bits)
			if ok := addr.Right(x); ok != rightOf(x) {
				t.Errorf("Right(%v) = %t", x, ok)
			}
		}
	}
}

// P4.1
func TestCutExamples(t *testing.T) {
	for _, c := range []struct {
		a    api.Addr
		bits int
		want api.Net
	}{
		// The chapter's own.
		{api.Addr{10, 1, 2, 3}, 8, api.Net{Addr: api.Addr{10, 0, 0, 0}, Bits: 8}},
		{api.Addr{10, 1, 2, 3}, math.MinInt, api.Net{}},
		{api.Addr{10, 1, 2, 3}, -1, api.Net{}},
		{api.Addr{10, 1, 2, 3}, 0, api.Net{}},
		{api.Addr{10, 1, 2, 3}, 1, api.Net{Bits: 1}},
		{api.Addr{192, 168, 1, 77}, 1, api.Net{Addr: api.Addr{128, 0, 0, 0}, Bits: 1}},
		{api.Addr{192, 168, 1, 77}, 26, api.Net{Addr: api.Addr{192, 168, 1, 64}, Bits: 26}},
		{api.Addr{10, 1, 2, 3}, 31, api.Net{Addr: api.Addr{10, 1, 2, 2}, Bits: 31}},
		{api.Addr{10, 1, 2, 3}, 32, api.Net{Addr: api.Addr{10, 1, 2, 3}, Bits: 32}},
		{api.Addr{10, 1, 2, 3}, 33, api.Net{Addr: api.Addr{10, 1, 2, 3}, Bits: 32}},
		{api.Addr{10, 1, 2, 3}, math.MaxInt, api.Net{Addr: api.Addr{10, 1, 2, 3}, Bits: 32}},
	} {
		if n := addr.Cut(c.a, c.bits); n != c.want {
			t.Errorf("Cut(%v, %d) = %v, not %v", c.a, c.bits, n, c.want)
		}
	}
}

// P4.1
func TestCutOfAllBits(t *testing.T) {
	for _, n := range some() {
		a := netOf(n, 0).Addr
		for _, bits := range everyBits() {
			first := counted(bits)
			want := bitsOf(a)[:first] + strings.Repeat("0", 32-first)
			if x := addr.Cut(a, bits); x.Bits != first || bitsOf(x.Addr) != want || !addr.Right(x) {
				t.Errorf("Cut(%v, %d) = %v", a, bits, x)
			}
		}
	}
}

// P4.2
func TestInExamples(t *testing.T) {
	for _, c := range []struct {
		a    uint32
		n    api.Net
		want bool
	}{
		{0x0a010203, netOf(0x0a000000, 8), true},
		{0x0a000000, netOf(0x0a000000, 8), true},
		{0x0affffff, netOf(0x0a000000, 8), true},
		{0x0b000000, netOf(0x0a000000, 8), false},
		{0x09ffffff, netOf(0x0a000000, 8), false},
		// The network of all addresses, and such of one.
		{0, api.Net{}, true},
		{0x0a010203, api.Net{}, true},
		{math.MaxUint32, api.Net{}, true},
		{0x0a010203, netOf(0x0a010203, 32), true},
		{0x0a010202, netOf(0x0a010203, 32), false},
		{0x8a010203, netOf(0x0a010203, 32), false},
		{math.MaxUint32, netOf(math.MaxUint32, 32), true},
		{0, netOf(0, 32), true},
		{1, netOf(0, 32), false},
		// Such as are not RIGHT hold nothing, not even their own address.
		{0x0a010203, netOf(0x0a010203, 8), false},
		{0x0a000000, netOf(0x0a010203, 8), false},
		{0x0a010203, netOf(0x0a010203, 33), false},
		{0x0a010203, netOf(0x0a010203, math.MaxInt), false},
		{0, netOf(0, -1), false},
		{0, netOf(0, math.MinInt), false},
		{1, netOf(1, 0), false},
	} {
		if ok := addr.In(netOf(c.a, 0).Addr, c.n); ok != c.want {
			t.Errorf("In(%08x, %v) = %t", c.a, c.n, ok)
		}
	}
}

// inOf is In by the bits that both begin with.
func inOf(a api.Addr, n api.Net) bool {
	return rightOf(n) && bitsOf(a)[:n.Bits] == bitsOf(n.Addr)[:n.Bits]
}

// P4.2
func TestInOfAllBits(t *testing.T) {
	for _, n := range some() {
		for _, bits := range everyBits() {
			for _, x := range []api.Net{netOf(n, bits), addr.Cut(addr.Of(n), bits)} {
				for _, m := range append(some()[:40], n, n^1, n^1<<31) {
					if a := addr.Of(m); addr.In(a, x) != inOf(a, x) {
						t.Errorf("In(%v, %v) = %t", a, x, addr.In(a, x))
					}
				}
			}
		}
	}
}

// P4.2
func TestWithinExamples(t *testing.T) {
	all, ten, one := api.Net{}, netOf(0x0a000000, 8), netOf(0x0a010203, 32)
	for _, c := range []struct {
		a, b api.Net
		want bool
	}{
		{netOf(0x0a010000, 16), ten, true},
		{ten, netOf(0x0a010000, 16), false},
		// The smaller one may begin where the greater one does.
		{netOf(0x0a000000, 16), ten, true},
		{ten, netOf(0x0a000000, 16), false},
		{netOf(0x0a000000, 32), ten, true},
		{ten, ten, true},
		{all, all, true},
		{one, one, true},
		{one, ten, true},
		{ten, one, false},
		{one, all, true},
		{ten, all, true},
		{all, ten, false},
		{all, one, false},
		{all, netOf(0, 1), false},
		{netOf(0, 1), all, true},
		{netOf(1<<31, 1), netOf(0, 1), false},
		// Such as share nothing.
		{netOf(0x0b000000, 16), ten, false},
		{ten, netOf(0x0b000000, 16), false},
		{netOf(0x0b000000, 8), ten, false},
		{netOf(0x0a010202, 32), one, false},
		// Such as are not RIGHT, on either side.
		{netOf(0x0a010203, 8), ten, false},
		{netOf(0x0a010203, 16), all, false},
		{one, netOf(0x0a010203, 8), false},
		{netOf(0x0a010203, 8), netOf(0x0a010203, 8), false},
		{netOf(0, -1), all, false},
		{all, netOf(0, -1), false},
		{netOf(0, -1), netOf(0, -1), false},
		{netOf(0x0a010203, 33), one, false},
		{netOf(0x0a010203, 33), netOf(0x0a010203, 33), false},
		{one, netOf(0x0a010203, 33), false},
		{netOf(0, math.MaxInt), all, false},
		{netOf(0, math.MaxInt), netOf(0, math.MaxInt), false},
		{all, netOf(0, math.MinInt), false},
		{netOf(0, math.MinInt), netOf(0, math.MinInt), false},
	} {
		if ok := addr.Within(c.a, c.b); ok != c.want {
			t.Errorf("Within(%v, %v) = %t", c.a, c.b, ok)
		}
	}
}

// endsOf are the least and the greatest NUMBER in a RIGHT network.
func endsOf(n api.Net) (uint64, uint64) {
	first := uint64(0)
	for _, c := range n.Addr {
		first = first*256 + uint64(c)
	}
	return first, first + 1<<(32-n.Bits) - 1
}

// withinOf is Within by the NUMBERs that both have.
func withinOf(a, b api.Net) bool {
	if !rightOf(a) || !rightOf(b) {
		return false
	}
	least, greatest := endsOf(a)
	from, to := endsOf(b)
	return from <= least && greatest <= to
}

// P4.2
func TestWithinOfMany(t *testing.T) {
	var nets []api.Net
	for _, n := range append(some()[:40], 0x0a010202, 0x0a800000) {
		for _, bits := range []int{math.MinInt, -1, 0, 1, 7, 8, 9, 16, 30, 31, 32, 33, math.MaxInt} {
			nets = append(nets, netOf(n, bits), addr.Cut(addr.Of(n), bits))
		}
	}
	for _, a := range nets {
		for _, b := range nets {
			if ok := addr.Within(a, b); ok != withinOf(a, b) {
				t.Errorf("Within(%v, %v) = %t", a, b, ok)
			}
		}
	}
}

// P4.2: Within says the same as In does of each address.
func TestWithinAndIn(t *testing.T) {
	for bits := 24; bits <= 32; bits++ {
		for last := range 256 {
			a := addr.Cut(api.Addr{10, 0, 0, byte(last)}, bits)
			for _, b := range []api.Net{netOf(0x0a000040, 26), netOf(0x0a000041, 32), netOf(0x0a000000, 24), netOf(0x0a000080, 25)} {
				every := true
				for n, to := endsOf(a); n <= to; n++ {
					every = every && addr.In(addr.Of(uint32(n)), b)
				}
				if addr.Within(a, b) != every {
					t.Errorf("Within(%v, %v) = %t", a, b, !every)
				}
			}
		}
	}
}

// P4.3
func TestTextExamples(t *testing.T) {
	for _, c := range []struct {
		a    api.Addr
		want string
	}{
		{api.Addr{}, "0.0.0.0"},
		{api.Addr{1, 2, 3, 4}, "1.2.3.4"},
		{api.Addr{10, 0, 100, 9}, "10.0.100.9"},
		{api.Addr{192, 168, 1, 77}, "192.168.1.77"},
		{api.Addr{255, 255, 255, 255}, "255.255.255.255"},
	} {
		if s := addr.Text(c.a); s != c.want {
			t.Errorf("Text(%v) = %q", c.a, s)
		}
		if a, e := addr.Parse(c.want); a != c.a || e != api.OK {
			t.Errorf("Parse(%q) = %v, %d", c.want, a, e)
		}
	}
}

// holdRead tells whether an address's text is as the library writes it, and is read back.
func holdRead(t *testing.T, a api.Addr) {
	t.Helper()
	s := addr.Text(a)
	if s != netip.AddrFrom4(a).String() {
		t.Errorf("Text(%v) = %q", a, s)
	}
	if x, e := addr.Parse(s); x != a || e != api.OK {
		t.Errorf("Parse(%q) = %v, %d", s, x, e)
	}
}

// P4.3
func TestTextIsReadBack(t *testing.T) {
	for _, n := range some() {
		holdRead(t, addr.Of(n))
	}
	for c := range 256 {
		for place := range 4 {
			a := api.Addr{7, 77, 177, 0}
			a[place] = byte(c)
			holdRead(t, a)
		}
	}
}

// noNumbers are texts that stand for no number from 0 to 255.
func noNumbers() []string {
	return []string{
		"", " ", "256", "257", "260", "300", "512", "999", "1000", "4294967296", "18446744073709551616", "99999999999999999999999999",
		"00", "000", "01", "001", "07", "010", "0255", "000000000001", "0x1", "0b1", "0o7", "0_1", "1_0", "1e1",
		"-1", "-0", "+0", "+1", "--1", "- 1", " 1", "1 ", "\t1", "1\n", "1\x00", "\x001", "1,", "1/", "/1", "a", "1a", "a1", "ff", "O", "l",
		"\xff", "1\xff", "\xc3", "١", "１", "²", "½", "1\u00a0", "\u20281",
	}
}

// P4.3
func TestParseOfNoNumbers(t *testing.T) {
	for _, wrong := range noNumbers() {
		for place := range 4 {
			parts := []string{"1", "20", "255", "0"}
			parts[place] = wrong
			holdNone(t, strings.Join(parts, "."))
		}
	}
}

func holdNone(t *testing.T, s string) {
	t.Helper()
	if a, e := addr.Parse(s); a != (api.Addr{}) || e != api.ErrAddr {
		t.Errorf("Parse(%q) = %v, %d", s, a, e)
	}
}

// P4.3
func TestParseOfWrongTexts(t *testing.T) {
	for _, s := range []string{
		"", " ", ".", "..", "...", "....", "/", "0", "1", "16909060", "1.2", "1.2.3", "1.2.3.4.5", "1.2.3.4.5.6.7.8", "1.2.3.4.0", "0.1.2.3.4",
		".1.2.3", "1.2.3.", ".1.2.3.4", "1.2.3.4.", "1..2.3", "1.2..3", "1..2.3.4", "1.2..3.4", "1.2.3..4", "..1.2.3.4", "1.2.3.4..", ".1.2.3.4.",
		" 1.2.3.4", "1.2.3.4 ", "1. 2.3.4", "1 .2.3.4", "1.2.3.4\n", "\n1.2.3.4", "1.2.3.4\x00", "1 2 3 4", "1,2,3,4", "1,2.3.4", "1-2-3-4", "1.2.3:4",
		"a.b.c.d", "one", "1.2.3.d", "localhost", "::1", "::ffff:1.2.3.4", "[1.2.3.4]", "1.2.3.4%x", "0x01020304", "1.2.3.4/32", "1.2.3.4/", "10.0.0.0/8",
		"\xff\xfe\xfd\xfc", "1.2.3.\x80", "1\xff2\xff3\xff4", "1。2。3。4", "١.٢.٣.٤",
		strings.Repeat(".", 100000), strings.Repeat("1.", 100000), strings.Repeat("1", 100000), "1.2.3." + strings.Repeat("0", 100000), strings.Repeat("1.2.3.4", 2),
	} {
		holdNone(t, s)
		holdNoNet(t, s+"/x")
		if s != "1.2.3.4/32" && s != "10.0.0.0/8" {
			holdNoNet(t, s)
		}
	}
}

// P4.3: what is read is some address's Text, whatever the text is.
func TestParseOfAnyText(t *testing.T) {
	from := rand.New(rand.NewSource(43))
	signs := "0123456789....../ +-a\xff"
	for range 300000 {
		s := make([]byte, from.Intn(12))
		for i := range s {
			s[i] = signs[from.Intn(len(signs))]
		}
		holdAsLibrary(t, string(s))
		holdNetAsLibrary(t, string(s)+".0.0/"+string(s))
	}
	for range 100000 {
		a := fmt.Sprintf("%d.%d.%d.%d", from.Intn(300), from.Intn(300), from.Intn(300), from.Intn(300))
		holdAsLibrary(t, a)
		holdNetAsLibrary(t, fmt.Sprintf("%s/%d", a, 20+from.Intn(15)))
		holdNetAsLibrary(t, fmt.Sprintf("%d.%d.0.0/%d", from.Intn(300), from.Intn(4), from.Intn(40)))
	}
}

// holdAsLibrary holds Parse against the library, which reads other kinds of addresses too.
func holdAsLibrary(t *testing.T, s string) {
	t.Helper()
	x, err := netip.ParseAddr(s)
	if err != nil || !x.Is4() || x.String() != s {
		holdNone(t, s)
		return
	}
	if a, e := addr.Parse(s); a != x.As4() || e != api.OK {
		t.Errorf("Parse(%q) = %v, %d", s, a, e)
	}
}

// holdNetAsLibrary holds ParseNet against the library, which reads other kinds of networks too, and such as are not RIGHT.
func holdNetAsLibrary(t *testing.T, s string) {
	t.Helper()
	x, err := netip.ParsePrefix(s)
	if err != nil || !x.Addr().Is4() || x.String() != s || x != x.Masked() {
		holdNoNet(t, s)
		return
	}
	want := api.Net{Addr: x.Addr().As4(), Bits: x.Bits()}
	if n, e := addr.ParseNet(s); n != want || e != api.OK {
		t.Errorf("ParseNet(%q) = %v, %d", s, n, e)
	}
}

// P4.3
func TestNetTextExamples(t *testing.T) {
	for _, c := range []struct {
		n    api.Net
		want string
	}{
		// The chapter's own.
		{addr.Cut(api.Addr{10, 1, 2, 3}, 8), "10.0.0.0/8"},
		{api.Net{}, "0.0.0.0/0"},
		{netOf(0, 32), "0.0.0.0/32"},
		{netOf(1<<31, 1), "128.0.0.0/1"},
		{netOf(0xc0a80140, 26), "192.168.1.64/26"},
		{netOf(math.MaxUint32-1, 31), "255.255.255.254/31"},
		{netOf(math.MaxUint32, 32), "255.255.255.255/32"},
	} {
		if s := addr.NetText(c.n); s != c.want {
			t.Errorf("NetText(%v) = %q", c.n, s)
		}
		if n, e := addr.ParseNet(c.want); n != c.n || e != api.OK {
			t.Errorf("ParseNet(%q) = %v, %d", c.want, n, e)
		}
	}
}

// P4.3
func TestNetTextIsReadBack(t *testing.T) {
	for _, n := range some() {
		for _, bits := range everyBits() {
			for _, x := range []api.Net{netOf(n, bits), addr.Cut(addr.Of(n), bits)} {
				holdNetRead(t, x)
			}
		}
	}
}

// holdNetRead tells whether a RIGHT network's text is read back, and one that isn't has none.
func holdNetRead(t *testing.T, n api.Net) {
	t.Helper()
	s := addr.NetText(n)
	plain := fmt.Sprintf("%d.%d.%d.%d/%d", n.Addr[0], n.Addr[1], n.Addr[2], n.Addr[3], n.Bits)
	if !rightOf(n) {
		if s != "" {
			t.Errorf("NetText(%v) = %q", n, s)
		}
		holdNoNet(t, plain)
		return
	}
	if s != plain {
		t.Errorf("NetText(%v) = %q", n, s)
	}
	if x, e := addr.ParseNet(s); x != n || e != api.OK {
		t.Errorf("ParseNet(%q) = %v, %d", s, x, e)
	}
}

func holdNoNet(t *testing.T, s string) {
	t.Helper()
	if n, e := addr.ParseNet(s); n != (api.Net{}) || e != api.ErrAddr {
		t.Errorf("ParseNet(%q) = %v, %d", s, n, e)
	}
}

// P4.3
func TestParseNetOfWrongBits(t *testing.T) {
	// With so many bits of 0, any Bits that can be would do.
	for _, s := range append(noNumbers(), "33", "34", "40", "64", "99", "100", "128", "255", "08", "032", "8/", "/8", "8/8", "8.0", ".8", "8.", "255.0.0.0") {
		holdNoNet(t, "0.0.0.0/"+s)
	}
	holdNoNet(t, "0.0.0.0/"+strings.Repeat("0", 100000))
	holdNoNet(t, "0.0.0.0/"+strings.Repeat("9", 100000))
}

// P4.3
func TestParseNetOfWrongTexts(t *testing.T) {
	for _, s := range []string{
		"", "/", "//", "0", "8", "/8", "10.0.0.0", "10.0.0.0/", "/10.0.0.0", "/10.0.0.0/8", "//8", "10.0.0.0//8", "10.0.0.0/8/", "10.0.0.0/8/8", "10.0.0.0/8//", "8/10.0.0.0",
		"10.0.0/8", "10/8", "10.0.0.0.0/8", ".10.0.0.0/8", "10.0.0.0./8", "10..0.0/8", "10.0.0.256/32", "256.0.0.0/8", "010.0.0.0/8", "10.0.0.00/8", "+10.0.0.0/8", "-10.0.0.0/8",
		" 10.0.0.0/8", "10.0.0.0/8 ", "10.0.0.0 /8", "10.0.0.0/ 8", "10.0.0.0\\8", "10.0.0.0:8", "10.0.0.0 8", "10.0.0.0/a", "a/8", "ten/eight", "::/0", "\xff/8", "10.0.0.0/\xff", "10.0.0.0\xff8", "10.0.0.0∕8",
		// Of such as are not RIGHT.
		"10.0.0.1/8", "10.128.0.0/8", "0.0.0.1/0", "128.0.0.0/0", "255.255.255.255/31", "1.2.3.4/0", "1.2.3.4/29",
		strings.Repeat("/", 100000), strings.Repeat("10.0.0.0/8", 2),
	} {
		holdNoNet(t, s)
	}
}
