package policy_test

import (
	"math"
	"math/rand"
	"slices"
	"testing"

	"floodgate/api"
	"floodgate/policy"
)

// Here the sizes stand as the chapter writes them, not as package api does: Subs to 255, numbers to 2 to the power of 48, a lease and a quantum of at least 1500, 8 policies together.

const most = uint64(1) << 48

func netOf(a, b, c, d byte, bits int) api.Net {
	return api.Net{Addr: api.Addr{a, b, c, d}, Bits: bits}
}

// sold is a policy that is RIGHT, no two of whose numbers are the same.
func sold() api.Policy {
	return api.Policy{Sub: 7, Net: netOf(10, 1, 2, 0, 24), Rate: 1000, Burst: 3000, SlowRate: 100, SlowBurst: 2000, Quota: 90000, Lease: 5000, Quantum: 1600}
}

// least is the policy whose numbers are all as low as they may be.
func least() api.Policy {
	return api.Policy{Sub: 1, Lease: 1500, Quantum: 1500}
}

// greatest is the policy whose numbers are all as great as they may be.
func greatest() api.Policy {
	return api.Policy{Sub: 255, Net: netOf(255, 255, 255, 255, 32), Rate: most, Burst: most, SlowRate: most, SlowBurst: most, Quota: most, Lease: most, Quantum: most}
}

func bases() []api.Policy { return []api.Policy{sold(), least(), greatest()} }

// numsOf are the ten numbers of a policy, by their words; the address's is told byte by byte.
func numsOf(p api.Policy) []uint64 {
	a := p.Net.Addr
	number := uint64(a[0])*(1<<24) + uint64(a[1])*(1<<16) + uint64(a[2])*(1<<8) + uint64(a[3])
	return []uint64{uint64(p.Sub), number, uint64(p.Net.Bits), p.Rate, p.Burst, p.SlowRate, p.SlowBurst, p.Quota, p.Lease, p.Quantum}
}

// rightNums is whether numbers are those of a policy that is RIGHT, by its words.
func rightNums(l []uint64) bool {
	if len(l) != 10 || l[0] < 1 || l[0] > 255 || l[1] >= 1<<32 || l[2] > 32 {
		return false
	}
	// No bits behind the first ones: the number is a multiple of how many addresses the network has.
	if l[1]%(uint64(1)<<(32-l[2])) != 0 {
		return false
	}
	for _, n := range l[3:] {
		if n > most {
			return false
		}
	}
	return l[8] >= 1500 && l[9] >= 1500
}

// ofNums is the policy of ten numbers, each of which has a place in its field.
func ofNums(l []uint64) api.Policy {
	n := l[1]
	return api.Policy{
		Sub:  int(l[0]),
		Net:  netOf(byte(n/(1<<24)), byte(n/(1<<16)%256), byte(n/256%256), byte(n%256), int(l[2])),
		Rate: l[3], Burst: l[4], SlowRate: l[5], SlowBurst: l[6], Quota: l[7], Lease: l[8], Quantum: l[9],
	}
}

// step is a number at a place of a policy's Nums, and whether a policy with it there is RIGHT, where all others are.
type step struct {
	at    int
	n     uint64
	right bool
}

func stepsOf(at int, right bool, ns ...uint64) []step {
	var out []step
	for _, n := range ns {
		out = append(out, step{at, n, right})
	}
	return out
}

// steps are those of all fields but the Net, at and about their edges; each Sub of them is an int.
func steps() []step {
	out := stepsOf(0, true, 1, 2, 7, 127, 128, 254, 255)
	out = append(out, stepsOf(0, false, 0, 256, 257, 263, 511, 512, 1<<16+7, 1<<31, 1<<32, 1<<32+1, 1<<32+255, most, 1<<63-1)...)
	for at := 3; at <= 9; at++ {
		out = append(out, stepsOf(at, true, 1500, 1501, 1<<31, 1<<32, 1<<32+1, most-1, most)...)
		out = append(out, stepsOf(at, false, most+1, most+1500, most+1501, 1<<49, 1<<63-1, 1<<63, 1<<63+1500, math.MaxUint64-1, math.MaxUint64)...)
		// Only the lease and the quantum have to hold a packet.
		out = append(out, stepsOf(at, at < 8, 0, 1, 2, 1498, 1499)...)
	}
	return out
}

// with is the policy with another number at that place, which isn't the Net's.
func with(p api.Policy, at int, n uint64) api.Policy {
	switch at {
	case 0:
		p.Sub = int(n)
	case 3:
		p.Rate = n
	case 4:
		p.Burst = n
	case 5:
		p.SlowRate = n
	case 6:
		p.SlowBurst = n
	case 7:
		p.Quota = n
	case 8:
		p.Lease = n
	case 9:
		p.Quantum = n
	}
	return p
}

// net is a network, and whether it is RIGHT.
type net struct {
	n     api.Net
	right bool
}

func nets() []net {
	return []net{
		{netOf(0, 0, 0, 0, 0), true},
		{netOf(0, 0, 0, 0, 1), true},
		{netOf(0, 0, 0, 0, 31), true},
		{netOf(0, 0, 0, 0, 32), true},
		{netOf(128, 0, 0, 0, 1), true},
		{netOf(10, 0, 0, 0, 7), true},
		{netOf(10, 0, 0, 0, 8), true},
		{netOf(10, 0, 0, 0, 32), true},
		{netOf(10, 1, 0, 0, 16), true},
		{netOf(10, 1, 2, 3, 32), true},
		{netOf(255, 255, 255, 254, 31), true},
		{netOf(255, 255, 255, 255, 32), true},
		// By its Bits.
		{netOf(0, 0, 0, 0, 33), false},
		{netOf(0, 0, 0, 0, 34), false},
		{netOf(0, 0, 0, 0, 64), false},
		{netOf(0, 0, 0, 0, 256), false},
		{netOf(0, 0, 0, 0, 1<<32), false},
		{netOf(0, 0, 0, 0, math.MaxInt), false},
		{netOf(0, 0, 0, 0, -1), false},
		{netOf(0, 0, 0, 0, -32), false},
		{netOf(0, 0, 0, 0, -1<<32), false},
		{netOf(0, 0, 0, 0, math.MinInt), false},
		{netOf(10, 0, 0, 0, -8), false},
		{netOf(10, 0, 0, 0, 33), false},
		{netOf(10, 0, 0, 0, 256+8), false},
		{netOf(10, 0, 0, 0, 1<<32+8), false},
		{netOf(255, 255, 255, 255, 33), false},
		{netOf(255, 255, 255, 255, -1), false},
		// By its Addr.
		{netOf(10, 0, 0, 0, 6), false},
		{netOf(10, 0, 0, 0, 0), false},
		{netOf(10, 128, 0, 0, 8), false},
		{netOf(10, 0, 0, 1, 8), false},
		{netOf(10, 1, 2, 3, 31), false},
		{netOf(0, 0, 0, 1, 0), false},
		{netOf(0, 0, 0, 1, 31), false},
		{netOf(128, 0, 0, 0, 0), false},
		{netOf(255, 255, 255, 255, 31), false},
		{netOf(255, 255, 255, 255, 0), false},
	}
}

// tried is a policy, and whether it is RIGHT.
type tried struct {
	p     api.Policy
	right bool
}

// allTried are policies that are RIGHT, or are but for one field, each of whose edges is gone to.
func allTried() []tried {
	var out []tried
	for _, b := range bases() {
		out = append(out, tried{b, true})
		for _, s := range steps() {
			out = append(out, tried{with(b, s.at, s.n), s.right})
		}
		for _, n := range []int{-1, -2, -255, -256 + 7, -1<<32 + 7, math.MinInt, math.MinInt + 7} {
			p := b
			p.Sub = n
			out = append(out, tried{p, false})
		}
		for _, n := range nets() {
			p := b
			p.Net = n.n
			out = append(out, tried{p, n.right})
		}
	}
	return append(out, tried{api.Policy{}, false})
}

// wrong are policies that aren't RIGHT by one field alone.
func wrong() []api.Policy {
	var out []api.Policy
	for _, c := range allTried() {
		if !c.right {
			out = append(out, c.p)
		}
	}
	return out
}

func holdOf(t *testing.T, l []uint64, want api.Policy) {
	t.Helper()
	if p, e := policy.Of(l); p != want || e != api.OK {
		t.Errorf("Of(%v) = %v, %d, not %v", l, p, e, want)
	}
}

func holdOfNone(t *testing.T, l []uint64) {
	t.Helper()
	if p, e := policy.Of(l); p != (api.Policy{}) || e != api.ErrPolicy {
		t.Errorf("Of(%v) = %v, %d", l, p, e)
	}
}

func holdAll(t *testing.T, l []api.Policy, want api.Errno) {
	t.Helper()
	if e := policy.All(l); e != want {
		t.Errorf("All(%v) = %d, not %d", l, e, want)
	}
}

// The chapter's sizes are package api's.
func TestSizes(t *testing.T) {
	if api.MaxSub != 255 || api.MaxValue != most || api.MaxPacket != 1500 || api.MaxSubs != 8 || api.ErrPolicy != 111 {
		t.Error(api.MaxSub, api.MaxValue, api.MaxPacket, api.MaxSubs, api.ErrPolicy)
	}
}

// P11.1: the chapter's own example.
func TestExample(t *testing.T) {
	holdOfNone(t, make([]uint64, 10))
}

// P11.1
func TestRight(t *testing.T) {
	for _, c := range allTried() {
		if ok := policy.Right(c.p); ok != c.right {
			t.Errorf("Right(%v) = %t", c.p, ok)
		}
	}
}

// P11.1: a field that is as it may be makes up for none that isn't.
func TestRightOfTwoFields(t *testing.T) {
	for _, b := range bases() {
		for _, x := range steps() {
			for _, y := range steps() {
				if x.at == y.at {
					continue
				}
				p := with(with(b, x.at, x.n), y.at, y.n)
				if ok := policy.Right(p); ok != (x.right && y.right) {
					t.Fatalf("Right(%v) = %t", p, ok)
				}
			}
		}
	}
}

// P11.1
func TestNumsExamples(t *testing.T) {
	for _, c := range []struct {
		p    api.Policy
		want []uint64
	}{
		{sold(), []uint64{7, 0x0a010200, 24, 1000, 3000, 100, 2000, 90000, 5000, 1600}},
		{least(), []uint64{1, 0, 0, 0, 0, 0, 0, 0, 1500, 1500}},
		{greatest(), []uint64{255, 0xffffffff, 32, most, most, most, most, most, most, most}},
	} {
		if l := policy.Nums(c.p); !slices.Equal(l, c.want) {
			t.Errorf("Nums(%v) = %v, not %v", c.p, l, c.want)
		}
	}
}

// P11.1
func TestNums(t *testing.T) {
	for _, c := range allTried() {
		l := policy.Nums(c.p)
		if !c.right {
			if len(l) != 0 {
				t.Errorf("Nums(%v) = %v", c.p, l)
			}
			continue
		}
		if !slices.Equal(l, numsOf(c.p)) {
			t.Errorf("Nums(%v) = %v, not %v", c.p, l, numsOf(c.p))
		}
	}
}

// spoil writes over a list, spare room included.
func spoil(l []uint64) {
	l = l[:cap(l)]
	for i := range l {
		l[i] = math.MaxUint64
	}
}

// P11.1
func TestNumsAreNew(t *testing.T) {
	for _, p := range append(bases(), api.Policy{}) {
		first, second := policy.Nums(p), policy.Nums(p)
		want := slices.Clone(second)
		spoil(first)
		if !slices.Equal(second, want) {
			t.Errorf("Nums(%v) = %v behind a change of another list", p, second)
		}
		if l := policy.Nums(p); !slices.Equal(l, want) {
			t.Errorf("Nums(%v) = %v, and %v before", p, l, want)
		}
	}
}

// P11.1: of each policy's Nums it is that policy again.
func TestOfNums(t *testing.T) {
	for _, c := range allTried() {
		if c.right {
			holdOf(t, numsOf(c.p), c.p)
			holdOf(t, policy.Nums(c.p), c.p)
		} else {
			// Numbers below 0 come out as the greatest ones here: they are no int's.
			holdOfNone(t, numsOf(c.p))
			holdOfNone(t, policy.Nums(c.p))
		}
	}
}

// P11.1
func TestOfAtEdges(t *testing.T) {
	all := steps()
	// Such as no field has a place for, which would be right if they were cut to it.
	all = append(all, stepsOf(0, false, 1<<63, 1<<63+1, 1<<63+7, math.MaxUint64-255, math.MaxUint64-1, math.MaxUint64)...)
	all = append(all, stepsOf(1, false, 1<<32, 1<<32+1<<24, 1<<32+0x0a010200, 1<<40, most, 1<<63, 1<<63+0x0a010200, 1<<64-1<<32, math.MaxUint64)...)
	all = append(all, stepsOf(2, false, 33, 34, 64, 64+24, 255, 256, 256+24, 256+32, 1<<32, 1<<32+24, 1<<32+32, 1<<63-1, 1<<63, 1<<63+24, 1<<63+32, math.MaxUint64-31, math.MaxUint64)...)
	for _, b := range bases() {
		for _, s := range all {
			l := numsOf(b)
			l[s.at] = s.n
			if s.right {
				holdOf(t, l, with(b, s.at, s.n))
			} else {
				holdOfNone(t, l)
			}
		}
	}
}

// P11.1: an address's number against all Bits, and Bits against all ends of an address.
func TestOfNets(t *testing.T) {
	for _, c := range nets() {
		p := sold()
		p.Net = c.n
		if c.right {
			holdOf(t, numsOf(p), p)
		} else {
			holdOfNone(t, numsOf(p))
		}
	}
	l := numsOf(sold())
	for bits := range 40 {
		for k := range 34 {
			l[1], l[2] = 1<<k, uint64(bits)
			// The one bit that is set is the last one that counts, or before it.
			if bits <= 32 && k < 32 && k >= 32-bits {
				holdOf(t, l, ofNums(l))
			} else {
				holdOfNone(t, l)
			}
		}
	}
}

// P11.1
func TestOfOtherLengths(t *testing.T) {
	holdOfNone(t, nil)
	holdOfNone(t, []uint64{})
	for _, b := range bases() {
		l := numsOf(b)
		holdOf(t, l, b)
		// The tenth number behind the end, in the spare room, doesn't count.
		for n := range 10 {
			holdOfNone(t, l[:n])
			holdOfNone(t, slices.Clone(l[:n]))
			holdOfNone(t, l[n+1:])
		}
		for _, n := range []uint64{0, 1, 1500, most, math.MaxUint64} {
			holdOfNone(t, append(slices.Clone(l), n))
			holdOfNone(t, append([]uint64{n}, l...))
		}
		holdOfNone(t, slices.Concat(l, l))
		holdOfNone(t, append(l, make([]uint64, 118)...))
		holdOfNone(t, append(l, make([]uint64, 256)...))
		holdOfNone(t, append(l, make([]uint64, 1<<16)...))
		// What is behind the ten is none of the list's.
		long := append(slices.Clone(l), 0, 7, math.MaxUint64)
		holdOf(t, long[:10], b)
	}
}

// P11.1: the zeros and the greatest numbers of all fields at once.
func TestOfAllTheSame(t *testing.T) {
	for _, n := range []uint64{0, 1, 32, 255, 1499, 1500, 1501, most, most + 1, 1 << 63, math.MaxUint64} {
		holdOfNone(t, slices.Repeat([]uint64{n}, 10))
	}
}

// P11.1
func TestOfChangesNothing(t *testing.T) {
	for _, c := range allTried() {
		room := append(numsOf(c.p), 11, 12, 13)
		want := slices.Clone(room)
		p, e := policy.Of(room[:10])
		if !slices.Equal(room, want) {
			t.Errorf("%v was changed to %v", want, room)
		}
		// The list isn't kept: what it is written over with is seen neither in the answer nor by a later call.
		spoil(room)
		if c.right && (p != c.p || e != api.OK) {
			t.Errorf("Of(%v) = %v, %d behind a change of the list", want[:10], p, e)
		}
		if q, f := policy.Of(want[:10]); q != p || f != e {
			t.Errorf("Of(%v) = %v, %d, and %v, %d before", want[:10], q, f, p, e)
		}
	}
}

// someNum is a number that is mostly as it may be at that place.
func someNum(from *rand.Rand, at int) uint64 {
	edges := []uint64{0, 1, 24, 32, 33, 255, 256, 1499, 1500, 1<<32 - 1, 1 << 32, most, most + 1, 1 << 63, math.MaxUint64}
	if from.Intn(40) == 0 {
		return edges[from.Intn(len(edges))]
	}
	switch at {
	case 0:
		return 1 + uint64(from.Intn(255))
	case 1:
		return uint64(from.Uint32()) << from.Intn(33) & math.MaxUint32
	case 2:
		return uint64(from.Intn(33))
	case 8, 9:
		return 1500 + uint64(from.Int63())>>(15+from.Intn(48))
	}
	return uint64(from.Int63()) >> (15 + from.Intn(48))
}

// P11.1: whatever numbers come, Of, Nums and Right are of one mind, and of the words'.
func TestOfAgainstWords(t *testing.T) {
	from := rand.New(rand.NewSource(11))
	held, refused := 0, 0
	for range 200000 {
		l := make([]uint64, 10)
		for at := range l {
			l[at] = someNum(from, at)
		}
		if !rightNums(l) {
			refused++
			holdOfNone(t, l)
			continue
		}
		held++
		p := ofNums(l)
		holdOf(t, l, p)
		if !policy.Right(p) || !slices.Equal(policy.Nums(p), l) {
			t.Errorf("Right, Nums of %v = %t, %v", p, policy.Right(p), policy.Nums(p))
		}
	}
	if held < 1000 || refused < 1000 {
		t.Errorf("%d held and %d refused are too few", held, refused)
	}
}

// row are so many policies that can be together, the k-th one of the k-th network and of a Sub between its neighbours'.
func row(n int) []api.Policy {
	var out []api.Policy
	for k := range n {
		p := bases()[k%3]
		p.Sub, p.Net = 10*k+5, netOf(10, byte(k), 0, 0, 16)
		out = append(out, p)
	}
	return out
}

// subs are policies of these Subs, each with a network of its own.
func subs(l ...int) []api.Policy {
	out := row(len(l))
	for k, n := range l {
		out[k].Sub = n
	}
	return out
}

// netsRow are policies of rising Subs with these networks.
func netsRow(l ...api.Net) []api.Policy {
	out := row(len(l))
	for k, n := range l {
		out[k].Net = n
	}
	return out
}

// P11.2
func TestAllOfSoMany(t *testing.T) {
	holdAll(t, nil, api.OK)
	holdAll(t, []api.Policy{}, api.OK)
	holdAll(t, make([]api.Policy, 0, 9), api.OK)
	for n := range 26 {
		want := api.OK
		if n > 8 {
			want = api.ErrPolicy
		}
		holdAll(t, row(n), want)
		// What is behind the list's end, in the spare room, doesn't count.
		holdAll(t, row(25)[:n], want)
		if n <= 8 {
			holdAll(t, append(row(n), api.Policy{})[:n], want)
		}
	}
	for _, n := range []int{255, 256, 264, 1 << 16} {
		holdAll(t, make([]api.Policy, n), api.ErrPolicy)
		holdAll(t, slices.Repeat([]api.Policy{sold()}, n), api.ErrPolicy)
	}
	// All there can be of rising Subs and networks of their own, and still too many.
	var l []api.Policy
	for k := range 255 {
		p := sold()
		p.Sub, p.Net = k+1, netOf(10, byte(k), 0, 0, 16)
		l = append(l, p)
	}
	holdAll(t, l, api.ErrPolicy)
}

// P11.2
func TestAllOfOne(t *testing.T) {
	for _, c := range allTried() {
		want := api.ErrPolicy
		if c.right {
			want = api.OK
		}
		holdAll(t, []api.Policy{c.p}, want)
	}
}

// P11.2
func TestAllBySubs(t *testing.T) {
	for _, c := range []struct {
		l    []int
		want api.Errno
	}{
		{[]int{1, 2}, api.OK},
		{[]int{254, 255}, api.OK},
		{[]int{1, 255}, api.OK},
		{[]int{1, 2, 3, 4, 5, 6, 7, 8}, api.OK},
		{[]int{248, 249, 250, 251, 252, 253, 254, 255}, api.OK},
		{[]int{1, 2, 40, 127, 128, 129, 200, 255}, api.OK},
		{[]int{1, 1}, api.ErrPolicy},
		{[]int{255, 255}, api.ErrPolicy},
		{[]int{2, 1}, api.ErrPolicy},
		{[]int{255, 254}, api.ErrPolicy},
		{[]int{255, 1}, api.ErrPolicy},
		{[]int{1, 2, 2}, api.ErrPolicy},
		{[]int{1, 3, 2}, api.ErrPolicy},
		// Above the first one, yet below the one before it; and the other way round.
		{[]int{1, 5, 3, 7}, api.ErrPolicy},
		{[]int{5, 1, 7, 8}, api.ErrPolicy},
		{[]int{1, 2, 1}, api.ErrPolicy},
		{[]int{8, 7, 6, 5, 4, 3, 2, 1}, api.ErrPolicy},
		{[]int{1, 2, 3, 4, 5, 6, 7, 7}, api.ErrPolicy},
		{[]int{1, 2, 3, 4, 5, 6, 8, 7}, api.ErrPolicy},
		{[]int{1, 1, 3, 4, 5, 6, 7, 8}, api.ErrPolicy},
		{[]int{0, 1}, api.ErrPolicy},
		{[]int{-1, 1}, api.ErrPolicy},
		{[]int{255, 256}, api.ErrPolicy},
		{[]int{1, 257}, api.ErrPolicy},
	} {
		holdAll(t, subs(c.l...), c.want)
	}
}

// P11.2: at each place of rows of all lengths, as great as the one before it and below it.
func TestAllBySubsAtEachPlace(t *testing.T) {
	for n := 2; n <= 8; n++ {
		for k := 1; k < n; k++ {
			for _, less := range []int{0, 1, 4, 5*k + 1} {
				l := row(n)
				l[k].Sub = max(1, l[k-1].Sub-less)
				holdAll(t, l, api.ErrPolicy)
			}
			l := row(n)
			l[k].Sub = l[k-1].Sub + 1
			holdAll(t, l, api.OK)
			l = row(n)
			l[k], l[k-1] = l[k-1], l[k]
			holdAll(t, l, api.ErrPolicy)
		}
	}
}

// P11.2: the same Net beside one another and apart.
func TestAllByNets(t *testing.T) {
	for n := 2; n <= 8; n++ {
		for i := range n {
			for j := i + 1; j < n; j++ {
				for _, c := range nets() {
					l := row(n)
					l[i].Net, l[j].Net = c.n, c.n
					holdAll(t, l, api.ErrPolicy)
				}
				l := row(n)
				l[j].Net = l[i].Net
				holdAll(t, l, api.ErrPolicy)
				// Only the Net may not be the same.
				l = row(n)
				sub, own := l[j].Sub, l[j].Net
				l[j] = l[i]
				l[j].Sub, l[j].Net = sub, own
				holdAll(t, l, api.OK)
			}
		}
	}
}

// P11.2: other Nets, however near to each other.
func TestAllByOtherNets(t *testing.T) {
	for _, l := range [][]api.Net{
		// One Addr with other Bits.
		{netOf(10, 0, 0, 0, 8), netOf(10, 0, 0, 0, 9)},
		{netOf(10, 0, 0, 0, 9), netOf(10, 0, 0, 0, 8)},
		{netOf(0, 0, 0, 0, 0), netOf(0, 0, 0, 0, 32)},
		{netOf(0, 0, 0, 0, 0), netOf(0, 0, 0, 0, 1), netOf(0, 0, 0, 0, 2), netOf(0, 0, 0, 0, 3), netOf(0, 0, 0, 0, 29), netOf(0, 0, 0, 0, 30), netOf(0, 0, 0, 0, 31), netOf(0, 0, 0, 0, 32)},
		// Other Addrs with the same Bits.
		{netOf(10, 0, 0, 0, 8), netOf(11, 0, 0, 0, 8)},
		{netOf(10, 1, 2, 3, 32), netOf(10, 1, 2, 2, 32), netOf(10, 1, 3, 3, 32), netOf(10, 2, 2, 3, 32), netOf(11, 1, 2, 3, 32), netOf(3, 2, 1, 10, 32)},
		// One within the other, whichever comes first.
		{netOf(10, 0, 0, 0, 8), netOf(10, 1, 0, 0, 16), netOf(10, 1, 2, 3, 32), netOf(0, 0, 0, 0, 0)},
		{netOf(10, 1, 2, 3, 32), netOf(10, 1, 0, 0, 16), netOf(10, 0, 0, 0, 8)},
	} {
		holdAll(t, netsRow(l...), api.OK)
		holdAll(t, netsRow(append(l[:len(l):len(l)], l[0])...), api.ErrPolicy)
	}
}

// P11.2: one that isn't RIGHT at the beginning, in the midst and at the end.
func TestAllOfOneThatIsNotRight(t *testing.T) {
	for _, p := range wrong() {
		for _, n := range []int{2, 3, 8} {
			for k := range n {
				// But for what is wrong of it, it takes its place's Sub and Net.
				l := row(n)
				q := p
				if q.Sub >= 1 && q.Sub <= 255 {
					q.Sub = l[k].Sub
				}
				if rightNums(numsOf(q)) {
					t.Fatalf("%v is RIGHT", q)
				}
				l[k] = q
				holdAll(t, l, api.ErrPolicy)
			}
		}
	}
	for _, n := range []int{1, 2, 8} {
		holdAll(t, make([]api.Policy, n), api.ErrPolicy)
	}
}

// P11.2
func TestAllChangesNothing(t *testing.T) {
	spare := sold()
	spare.Net.Bits = -5
	for _, l := range [][]api.Policy{nil, row(1), row(8), row(9), subs(2, 1), subs(3, 3), netsRow(api.Net{}, api.Net{}), make([]api.Policy, 3), slices.Repeat([]api.Policy{sold()}, 8)} {
		room := append(slices.Clone(l), spare, spare)
		want := slices.Clone(room)
		e := policy.All(room[:len(l)])
		if !slices.Equal(room, want) {
			t.Errorf("%v was changed to %v", want, room)
		}
		// The list isn't kept, and no call knows of the networks of another one.
		for i := range room {
			room[i] = api.Policy{}
		}
		holdAll(t, l, e)
		holdAll(t, row(8), api.OK)
		holdAll(t, row(8), api.OK)
	}
}

// allOf is All by its words, each pair of policies held against each other.
func allOf(l []api.Policy) api.Errno {
	if len(l) > 8 {
		return api.ErrPolicy
	}
	for i, p := range l {
		if p.Sub < 0 || p.Net.Bits < 0 || !rightNums(numsOf(p)) {
			return api.ErrPolicy
		}
		for _, q := range l[:i] {
			if q.Sub >= p.Sub || q.Net == p.Net {
				return api.ErrPolicy
			}
		}
	}
	return api.OK
}

// P11.2: whatever policies come.
func TestAllAgainstWords(t *testing.T) {
	from := rand.New(rand.NewSource(112))
	all := allTried()
	met := map[api.Errno]int{}
	for range 100000 {
		var l []api.Policy
		sub := 0
		for range from.Intn(10) {
			p := bases()[from.Intn(3)]
			sub += 1 + from.Intn(4)
			if from.Intn(30) == 0 {
				sub--
			}
			p.Sub, p.Net = sub, netOf(10, byte(from.Intn(40)), 0, 0, 16+from.Intn(8))
			if from.Intn(60) == 0 {
				p = all[from.Intn(len(all))].p
			}
			l = append(l, p)
		}
		want := allOf(l)
		met[want]++
		holdAll(t, l, want)
	}
	if met[api.OK] < 1000 || met[api.ErrPolicy] < 1000 {
		t.Errorf("%v are too few", met)
	}
}
