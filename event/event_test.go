package event_test

import (
	"bytes"
	"math"
	"math/big"
	"math/rand"
	"reflect"
	"slices"
	"testing"

	"floodgate/api"
	"floodgate/event"
	"floodgate/policy"
)

// Here the sizes stand as the chapter writes them, not as package api does: kinds 1 to 3, Subs to 255, numbers to 2 to the power of 48, 8 Puts and 8 Drops.

const (
	most     = uint64(1) << 48
	greatest = uint64(math.MaxUint64)
)

func commit(puts []api.Policy, drops ...int) api.Event {
	return api.Event{Kind: 1, Puts: puts, Drops: drops}
}

func lease(sub int, granted uint64) api.Event {
	return api.Event{Kind: 2, Sub: sub, Granted: granted}
}

func period(n uint64) api.Event { return api.Event{Kind: 3, Period: n} }

// sold is a policy of a subscriber, RIGHT if that is; no two subscribers have the same Net.
func sold(sub int) api.Policy {
	return api.Policy{
		Sub: sub, Net: api.Net{Addr: api.Addr{10, byte(sub)}, Bits: 16},
		Rate: 1000, Burst: 3000, SlowRate: 100, SlowBurst: 2000, Quota: 90000, Lease: 5000, Quantum: 1600,
	}
}

func puts(subs ...int) []api.Policy {
	var out []api.Policy
	for _, sub := range subs {
		out = append(out, sold(sub))
	}
	return out
}

// row are so many Subs that rise by step.
func row(n, from, step int) []int {
	var out []int
	for i := range n {
		out = append(out, from+step*i)
	}
	return out
}

// mixed is a commit of two Puts and three Drops.
func mixed() api.Event { return commit(puts(3, 200), 1, 4, 255) }

// fullest is the commit with as much in it as may be.
func fullest() api.Event { return commit(puts(row(8, 2, 2)...), row(8, 1, 2)...) }

// basic is an event of each kind.
func basic() []api.Event { return []api.Event{mixed(), lease(7, 300), period(5)} }

// plain is an event whose lists are nil where they are empty.
func plain(e api.Event) api.Event {
	if len(e.Puts) == 0 {
		e.Puts = nil
	}
	if len(e.Drops) == 0 {
		e.Drops = nil
	}
	return e
}

// alike is Same by its words.
func alike(a, b api.Event) bool { return reflect.DeepEqual(plain(a), plain(b)) }

// can is Right by its words.
func can(e api.Event) bool {
	value := func(n uint64) bool { return n >= 1 && n <= most }
	switch {
	case e.Kind == 1 && e.Sub == 0 && e.Granted == 0 && e.Period == 0:
		return len(e.Puts)+len(e.Drops) > 0 && together(e.Puts) && dropped(e.Puts, e.Drops)
	case e.Kind == 2 && len(e.Puts) == 0 && len(e.Drops) == 0 && e.Period == 0:
		return e.Sub >= 1 && e.Sub <= 255 && value(e.Granted)
	case e.Kind == 3 && e.Sub == 0 && len(e.Puts) == 0 && len(e.Drops) == 0 && e.Granted == 0:
		return value(e.Period)
	}
	return false
}

func together(l []api.Policy) bool {
	for i, p := range l {
		if i == 8 || !policy.Right(p) {
			return false
		}
		for _, q := range l[:i] {
			if q.Sub >= p.Sub || q.Net == p.Net {
				return false
			}
		}
	}
	return true
}

func dropped(puts []api.Policy, drops []int) bool {
	for i, sub := range drops {
		if i == 8 || sub < 1 || sub > 255 {
			return false
		}
		if i > 0 && drops[i-1] >= sub {
			return false
		}
		for _, p := range puts {
			if p.Sub == sub {
				return false
			}
		}
	}
	return true
}

// policyNums are a policy's ten numbers, RIGHT or not.
func policyNums(p api.Policy) []uint64 {
	a := p.Net.Addr
	number := uint64(a[0])*(1<<24) + uint64(a[1])*(1<<16) + uint64(a[2])*(1<<8) + uint64(a[3])
	return []uint64{uint64(p.Sub), number, uint64(p.Net.Bits), p.Rate, p.Burst, p.SlowRate, p.SlowBurst, p.Quota, p.Lease, p.Quantum}
}

// numsOf are the numbers of an event, RIGHT or not, by their words.
func numsOf(e api.Event) []uint64 {
	switch e.Kind {
	case 2:
		return []uint64{2, uint64(e.Sub), e.Granted}
	case 3:
		return []uint64{3, e.Period}
	}
	out := []uint64{uint64(e.Kind), uint64(len(e.Drops))}
	for _, sub := range e.Drops {
		out = append(out, uint64(sub))
	}
	for _, p := range e.Puts {
		out = append(out, policyNums(p)...)
	}
	return out
}

// spelt is layer 2's Put by its words.
func spelt(n uint64) []byte {
	out := []byte{byte(n % 128)}
	for n /= 128; n > 0; n /= 128 {
		out[len(out)-1] += 128
		out = append(out, byte(n%128))
	}
	return out
}

func bytesOf(l ...uint64) []byte {
	var out []byte
	for _, n := range l {
		out = append(out, spelt(n)...)
	}
	return out
}

// numbers are those whose bytes these are, as whole numbers of any size till they are held against their own spelling.
func numbers(b []byte) ([]uint64, bool) {
	var out []uint64
	for len(b) > 0 {
		size := 1 + slices.IndexFunc(b, func(c byte) bool { return c < 128 })
		sum := new(big.Int)
		for i := range size {
			digit := big.NewInt(int64(b[i] % 128))
			sum.Add(sum, digit.Lsh(digit, uint(7*i)))
		}
		if size == 0 || !sum.IsUint64() || !bytes.Equal(spelt(sum.Uint64()), b[:size]) {
			return nil, false
		}
		out = append(out, sum.Uint64())
		b = b[size:]
	}
	return out, true
}

// readOf is Read by its words: an event is made of whatever lies there, and held against its own bytes.
func readOf(b []byte) (api.Event, bool) {
	l, ok := numbers(b)
	if !ok || len(l) < 2 {
		return api.Event{}, false
	}
	var e api.Event
	switch l[0] {
	case 1:
		n := min(l[1], 8, uint64(len(l)-2))
		for _, sub := range l[2 : 2+n] {
			e.Drops = append(e.Drops, int(min(sub, 256)))
		}
		e.Kind, e.Puts = 1, putsOf(l[2+n:])
	case 2:
		e = lease(int(min(l[1], 256)), l[min(2, len(l)-1)])
	case 3:
		e = period(l[1])
	}
	if !can(e) || !bytes.Equal(bytesOf(numsOf(e)...), b) {
		return api.Event{}, false
	}
	return e, true
}

func putsOf(l []uint64) []api.Policy {
	var out []api.Policy
	for ; len(l) >= 10; l = l[10:] {
		n := min(l[1], 1<<32-1)
		out = append(out, api.Policy{
			Sub:  int(min(l[0], 256)),
			Net:  api.Net{Addr: api.Addr{byte(n >> 24), byte(n >> 16), byte(n >> 8), byte(n)}, Bits: int(min(l[2], 33))},
			Rate: l[3], Burst: l[4], SlowRate: l[5], SlowBurst: l[6], Quota: l[7], Lease: l[8], Quantum: l[9],
		})
	}
	return out
}

func holdRead(t *testing.T, b []byte, want api.Event) {
	t.Helper()
	if e, err := event.Read(b); !alike(e, want) || err != api.OK {
		t.Errorf("Read(% x) = %v, %d, not %v", b, e, err, want)
	}
}

func holdReadNone(t *testing.T, b []byte) {
	t.Helper()
	if e, err := event.Read(b); !alike(e, api.Event{}) || err != api.ErrEvent {
		t.Errorf("Read(% x) = %v, %d", b, e, err)
	}
}

// holdReadWords holds Read against its words, and tells whether there is an event.
func holdReadWords(t *testing.T, b []byte) bool {
	t.Helper()
	want, ok := readOf(b)
	if ok {
		holdRead(t, b, want)
	} else {
		holdReadNone(t, b)
	}
	return ok
}

// holdRight holds an event that is RIGHT against each call.
func holdRight(t *testing.T, e api.Event) {
	t.Helper()
	if !event.Right(e) {
		t.Errorf("%v isn't RIGHT", e)
	}
	want := bytesOf(numsOf(e)...)
	if b, err := event.Bytes(e); !bytes.Equal(b, want) || err != api.OK {
		t.Errorf("Bytes(%v) = % x, %d, not % x", e, b, err, want)
	}
	holdRead(t, want, e)
}

// holdWrong holds an event that isn't RIGHT against each call.
func holdWrong(t *testing.T, e api.Event) {
	t.Helper()
	if event.Right(e) {
		t.Errorf("%v is RIGHT", e)
	}
	if b, err := event.Bytes(e); len(b) != 0 || err != api.ErrEvent {
		t.Errorf("Bytes(%v) = % x, %d", e, b, err)
	}
	holdReadWords(t, bytesOf(numsOf(e)...))
}

func hold(t *testing.T, e api.Event, right bool) {
	t.Helper()
	if right {
		holdRight(t, e)
	} else {
		holdWrong(t, e)
	}
}

// The chapter's sizes are package api's.
func TestSizes(t *testing.T) {
	if api.EvCommit != 1 || api.EvLease != 2 || api.EvPeriod != 3 || api.ErrEvent != 121 {
		t.Error(api.EvCommit, api.EvLease, api.EvPeriod, api.ErrEvent)
	}
	if api.MaxSub != 255 || api.MaxSubs != 8 || api.MaxValue != most {
		t.Error(api.MaxSub, api.MaxSubs, api.MaxValue)
	}
}

// P12.2: the chapter's own example.
func TestExample(t *testing.T) {
	if b, err := event.Bytes(period(5)); !bytes.Equal(b, []byte{3, 5}) || err != api.OK {
		t.Errorf("% x, %d", b, err)
	}
	holdRead(t, []byte{3, 5}, period(5))
}

// P12.1
func TestRightOfEachKind(t *testing.T) {
	for _, e := range append(basic(), fullest()) {
		holdRight(t, e)
	}
	holdWrong(t, api.Event{})
}

// P12.1: of no other kind is there an event, whatever it has.
func TestRightOfOtherKinds(t *testing.T) {
	for _, e := range append(basic(), fullest(), api.Event{}) {
		for _, kind := range []int{math.MinInt, -1 << 32, -256, -3, -2, -1, 0, 4, 5, 8, 255, 256, 257, 258, 259, 1<<16 + 2, 1 << 32, 1<<32 + 1, 1<<32 + 2, 1<<32 + 3, math.MaxInt} {
			e.Kind = kind
			holdWrong(t, e)
		}
	}
}

// P12.1: the fields of one kind are no other one's.
func TestRightOfAnotherKindsFields(t *testing.T) {
	for own, e := range basic() {
		for kind := 1; kind <= 3; kind++ {
			if kind != own+1 {
				e.Kind = kind
				holdWrong(t, e)
			}
		}
	}
}

// besides are an event's copies with one field of another kind set beside its own.
func besides(e api.Event) []api.Event {
	var out []api.Event
	add := func(set func(*api.Event)) {
		c := e
		set(&c)
		out = append(out, c)
	}
	for _, n := range []int{1, 2, 7, 255, 256, 1 << 32, math.MaxInt, -1, -255, math.MinInt} {
		if e.Kind != 2 {
			add(func(c *api.Event) { c.Sub = n })
		}
	}
	for _, n := range []uint64{1, 2, 300, 1 << 32, most, most + 1, 1 << 63, greatest} {
		if e.Kind != 2 {
			add(func(c *api.Event) { c.Granted = n })
		}
		if e.Kind != 3 {
			add(func(c *api.Event) { c.Period = n })
		}
	}
	if e.Kind == 1 {
		return out
	}
	for _, l := range [][]api.Policy{puts(1), puts(7), puts(7, 8), puts(2, 1), puts(row(8, 1, 1)...), puts(row(9, 1, 1)...), make([]api.Policy, 1)} {
		add(func(c *api.Event) { c.Puts = l })
	}
	for _, l := range [][]int{{1}, {7}, {0}, {-1}, {256}, {1, 2}, {2, 1}, row(8, 1, 1), row(9, 1, 1)} {
		add(func(c *api.Event) { c.Drops = l })
	}
	return out
}

// P12.1: it has nothing else.
func TestRightHasNothingElse(t *testing.T) {
	for _, e := range append(basic(), commit(puts(7)), commit(nil, 7), fullest(), lease(255, most), period(most)) {
		holdRight(t, e)
		for _, c := range besides(e) {
			holdWrong(t, c)
			// Nor with two of them.
			for _, d := range besides(c)[:3] {
				holdWrong(t, d)
			}
		}
	}
}

// P12.1: empty lists are none, of each kind.
func TestRightOfEmptyLists(t *testing.T) {
	for _, ps := range [][]api.Policy{nil, {}, make([]api.Policy, 0, 3)} {
		for _, ds := range [][]int{nil, {}, make([]int, 0, 3)} {
			holdWrong(t, api.Event{Kind: 1, Puts: ps, Drops: ds})
			holdRight(t, api.Event{Kind: 1, Puts: puts(7), Drops: ds})
			holdRight(t, api.Event{Kind: 1, Puts: ps, Drops: []int{7}})
			holdRight(t, api.Event{Kind: 2, Sub: 7, Granted: 1, Puts: ps, Drops: ds})
			holdRight(t, api.Event{Kind: 3, Period: 1, Puts: ps, Drops: ds})
		}
	}
}

// P12.1: how many Puts and Drops there are.
func TestRightByHowMany(t *testing.T) {
	for n := range 12 {
		for m := range 12 {
			e := commit(puts(row(n, 2, 2)...), row(m, 1, 2)...)
			hold(t, e, n <= 8 && m <= 8 && n+m > 0)
		}
	}
	for _, n := range []int{16, 64, 120} {
		holdWrong(t, commit(puts(row(n, 2, 2)...)))
		holdWrong(t, commit(nil, row(n, 1, 2)...))
		holdWrong(t, commit(puts(row(n, 2, 2)...), row(n, 1, 2)...))
	}
	// More than there are Subs, so that none of these lists could be RIGHT.
	for _, n := range []int{255, 256, 257, 264, 1 << 16} {
		holdWrong(t, commit(puts(row(n, 1, 1)...)))
		holdWrong(t, commit(nil, row(n, 1, 1)...))
	}
}

// change is something that becomes of a policy, and whether one is RIGHT behind it.
type change struct {
	do    func(*api.Policy)
	right bool
}

// changes are those of each field alone, to its edges and just beyond.
func changes() []change {
	var out []change
	for _, n := range []int{0, -1, 256, 257, 1<<32 + 7, math.MinInt, math.MaxInt} {
		out = append(out, change{func(p *api.Policy) { p.Sub = n }, false})
	}
	for _, n := range []api.Net{
		{Addr: api.Addr{11, 1}, Bits: 15}, {Addr: api.Addr{11}, Bits: 33}, {Addr: api.Addr{11}, Bits: -1},
		{Addr: api.Addr{11, 0, 0, 1}, Bits: 31}, {Addr: api.Addr{11}, Bits: 256 + 8}, {Addr: api.Addr{11}, Bits: 1<<32 + 8},
	} {
		out = append(out, change{func(p *api.Policy) { p.Net = n }, false})
	}
	for _, n := range []api.Net{{}, {Bits: 32}, {Addr: api.Addr{255, 255, 255, 255}, Bits: 32}, {Addr: api.Addr{11}, Bits: 8}} {
		out = append(out, change{func(p *api.Policy) { p.Net = n }, true})
	}
	for at := range 7 {
		for n, right := range map[uint64]bool{0: at < 5, 1: at < 5, 1499: at < 5, 1500: true, most: true, most + 1: false, 1 << 63: false, greatest: false} {
			out = append(out, change{func(p *api.Policy) { *value(p, at) = n }, right})
		}
	}
	return out
}

// value is where one of a policy's seven values stands.
func value(p *api.Policy, at int) *uint64 {
	return []*uint64{&p.Rate, &p.Burst, &p.SlowRate, &p.SlowBurst, &p.Quota, &p.Lease, &p.Quantum}[at]
}

// P12.1: each Put is RIGHT.
func TestRightByEachPut(t *testing.T) {
	for _, n := range []int{1, 2, 3, 8} {
		for k := range n {
			for _, c := range changes() {
				e := commit(puts(row(n, 2, 2)...))
				c.do(&e.Puts[k])
				hold(t, e, c.right)
				e.Drops = []int{1, 100}
				hold(t, e, c.right)
			}
			e := commit(puts(row(n, 2, 2)...))
			e.Puts[k] = api.Policy{}
			holdWrong(t, e)
		}
	}
}

// P12.1: Puts that can't be together.
func TestRightByPutsTogether(t *testing.T) {
	for _, c := range []struct {
		subs  []int
		right bool
	}{
		{[]int{1}, true},
		{[]int{255}, true},
		{[]int{1, 2}, true},
		{[]int{1, 255}, true},
		{[]int{254, 255}, true},
		{[]int{1, 1}, false},
		{[]int{2, 1}, false},
		{[]int{255, 254}, false},
		{[]int{255, 256}, false},
		{[]int{0, 1}, false},
		{[]int{1, 3, 2}, false},
		{[]int{1, 2, 1}, false},
		{[]int{1, 2, 2}, false},
		{[]int{1, 2, 3, 4, 5, 6, 7, 8}, true},
		{[]int{1, 2, 3, 4, 5, 6, 8, 7}, false},
		{[]int{2, 1, 3, 4, 5, 6, 7, 8}, false},
	} {
		hold(t, commit(puts(c.subs...)), c.right)
		hold(t, commit(puts(c.subs...), 100), c.right)
	}
	for n := 2; n <= 8; n++ {
		for i := range n {
			for j := range i {
				// The same Net.
				e := commit(puts(row(n, 2, 2)...))
				e.Puts[i].Net = e.Puts[j].Net
				holdWrong(t, e)
				e.Drops = []int{1, 255}
				holdWrong(t, e)
			}
		}
	}
}

// P12.1
func TestRightByDrops(t *testing.T) {
	for _, c := range []struct {
		drops []int
		right bool
	}{
		{[]int{1}, true},
		{[]int{2}, true},
		{[]int{127}, true},
		{[]int{128}, true},
		{[]int{254}, true},
		{[]int{255}, true},
		{[]int{0}, false},
		{[]int{256}, false},
		{[]int{257}, false},
		{[]int{1 << 16}, false},
		{[]int{1<<32 + 1}, false},
		{[]int{math.MaxInt}, false},
		{[]int{-1}, false},
		{[]int{-255}, false},
		{[]int{-1<<32 + 1}, false},
		{[]int{math.MinInt}, false},
		{[]int{math.MinInt + 1}, false},
		{[]int{1, 2}, true},
		{[]int{1, 255}, true},
		{[]int{254, 255}, true},
		{[]int{0, 1}, false},
		{[]int{-1, 1}, false},
		{[]int{255, 256}, false},
		{[]int{1, 256}, false},
		{[]int{2, 1}, false},
		{[]int{255, 1}, false},
		{[]int{1, 1}, false},
		{[]int{255, 255}, false},
		{[]int{1, 2, 2}, false},
		{[]int{1, 1, 2}, false},
		{[]int{1, 2, 1}, false},
		{[]int{1, 3, 2}, false},
		// Above the first one, yet below the one before it.
		{[]int{1, 5, 3, 7}, false},
		{[]int{5, 1, 7}, false},
		{[]int{1, 2, 3, 4, 5, 6, 7, 8}, true},
		{[]int{248, 249, 250, 251, 252, 253, 254, 255}, true},
		{[]int{249, 250, 251, 252, 253, 254, 255, 256}, false},
		{[]int{0, 1, 2, 3, 4, 5, 6, 7}, false},
		{[]int{8, 7, 6, 5, 4, 3, 2, 1}, false},
		{[]int{1, 2, 3, 4, 5, 6, 8, 7}, false},
		{[]int{1, 2, 3, 4, 5, 6, 7, 7}, false},
	} {
		hold(t, commit(nil, c.drops...), c.right)
		hold(t, commit(puts(100), c.drops...), c.right)
	}
}

// P12.1: at each place of Drops of all lengths.
func TestRightByDropsAtEachPlace(t *testing.T) {
	for n := 1; n <= 8; n++ {
		for k := range n {
			for _, sub := range []int{0, -1, 256, 1 << 32, math.MinInt, math.MaxInt} {
				e := commit(nil, row(n, 10, 10)...)
				e.Drops[k] = sub
				holdWrong(t, e)
			}
			if k == 0 {
				continue
			}
			for _, up := range []int{-10, -9, -1, 0, 1, 2, 9} {
				e := commit(nil, row(n, 10, 10)...)
				e.Drops[k] = e.Drops[k-1] + up
				hold(t, e, up > 0)
			}
		}
	}
}

// P12.1: whichever Put's Sub is whichever of the Drops.
func TestRightByPutsAmongDrops(t *testing.T) {
	for n := 1; n <= 8; n++ {
		for m := 1; m <= 8; m++ {
			for i := range n {
				for j := range m {
					// But for the one that is 100, the Puts' Subs end with 0, and the Drops with 3.
					e := commit(puts(row(n, 100-10*i, 10)...), row(m, 103-10*j, 10)...)
					holdRight(t, e)
					e.Drops[j] = 100
					holdWrong(t, e)
				}
			}
		}
	}
	holdWrong(t, commit(puts(1), 1))
	holdWrong(t, commit(puts(255), 255))
	holdRight(t, commit(puts(1), 255))
	holdRight(t, commit(puts(255), 1))
	// A Sub is no other number of a policy.
	e := commit(puts(7), 8, 16)
	e.Puts[0].Rate, e.Puts[0].Net = 8, api.Net{Addr: api.Addr{16}, Bits: 16}
	holdRight(t, e)
}

// amounts are numbers at the edges of what may be granted, and whether they may.
func amounts() map[uint64]bool {
	return map[uint64]bool{
		0: false, 1: true, 2: true, 127: true, 128: true, 300: true, 1 << 31: true, 1 << 32: true, most - 1: true, most: true,
		most + 1: false, 1 << 49: false, 1<<63 - 1: false, 1 << 63: false, 1<<63 + 1: false, greatest - 1: false, greatest: false,
	}
}

// P12.1
func TestRightOfLeases(t *testing.T) {
	for _, sub := range []int{0, 1, 2, 127, 128, 254, 255, 256, 257, 1<<16 + 1, 1 << 32, 1<<32 + 1, math.MaxInt, -1, -255, -1<<32 + 1, math.MinInt, math.MinInt + 1} {
		for granted, right := range amounts() {
			hold(t, lease(sub, granted), right && sub >= 1 && sub <= 255)
		}
	}
}

// P12.1
func TestRightOfPeriods(t *testing.T) {
	for n, right := range amounts() {
		hold(t, period(n), right)
	}
}

func pick[T any](from *rand.Rand, l ...T) T { return l[from.Intn(len(l))] }

// anyEvent is one that is RIGHT about half of the time.
func anyEvent(from *rand.Rand) api.Event {
	e := api.Event{Kind: pick(from, 1, 1, 1, 2, 3)}
	other := func() bool { return from.Intn(40) == 0 }
	if e.Kind == 1 || other() {
		// A few Subs for both, so that some are among both.
		for sub := 1; sub <= 30; sub++ {
			n := from.Intn(20)
			if n < 3 {
				e.Puts = append(e.Puts, sold(sub))
			}
			if n >= 3 && n < 6 || n == 0 && other() {
				e.Drops = append(e.Drops, sub)
			}
		}
	}
	if len(e.Puts) > 0 && other() {
		pick(from, changes()...).do(&e.Puts[from.Intn(len(e.Puts))])
	}
	if len(e.Drops) > 0 && other() {
		e.Drops[from.Intn(len(e.Drops))] = pick(from, 0, -1, 1, 30, 255, 256)
	}
	if e.Kind == 2 || other() {
		e.Sub = pick(from, 0, 1, 7, 255, 256, -1)
		e.Granted = pick(from, 0, 1, 300, most, most+1, greatest)
	}
	if e.Kind == 3 || other() {
		e.Period = pick(from, 0, 1, 300, most, most+1, greatest)
	}
	return e
}

// P12.1, P12.2: whatever events come.
func TestAgainstWords(t *testing.T) {
	from := rand.New(rand.NewSource(12))
	met := map[bool]int{}
	var last api.Event
	for range 40000 {
		e := anyEvent(from)
		right := can(e)
		met[right]++
		hold(t, e, right)
		if event.Same(e, last) != alike(e, last) {
			t.Errorf("Same(%v, %v) = %t", e, last, event.Same(e, last))
		}
		last = e
	}
	if met[true] < 5000 || met[false] < 5000 {
		t.Errorf("%v are too few", met)
	}
}

func holdSame(t *testing.T, a, b api.Event, want bool) {
	t.Helper()
	if got := event.Same(a, b); got != want {
		t.Errorf("Same(%v, %v) = %t", a, b, got)
	}
	if got := event.Same(b, a); got != want {
		t.Errorf("Same(%v, %v) = %t", b, a, got)
	}
}

// stuffed is an event, not RIGHT, with all fields set.
func stuffed() api.Event {
	e := mixed()
	e.Sub, e.Granted, e.Period = 7, 300, 5
	return e
}

func copyOf(e api.Event) api.Event {
	e.Puts, e.Drops = slices.Clone(e.Puts), slices.Clone(e.Drops)
	return e
}

// others are an event's copies each of which differs in a single field from it.
func others(e api.Event) []api.Event {
	var out []api.Event
	add := func(set func(*api.Event)) {
		c := copyOf(e)
		set(&c)
		out = append(out, c)
	}
	for _, by := range []int{1, -1, 256, 1 << 32, math.MinInt} {
		add(func(c *api.Event) { c.Kind += by })
		add(func(c *api.Event) { c.Sub += by })
		for k := range e.Drops {
			add(func(c *api.Event) { c.Drops[k] += by })
		}
		for k := range e.Puts {
			add(func(c *api.Event) { c.Puts[k].Sub += by })
			add(func(c *api.Event) { c.Puts[k].Net.Bits += by })
		}
	}
	for _, by := range []uint64{1, greatest, 256, 1 << 32, 1 << 63} {
		add(func(c *api.Event) { c.Granted += by })
		add(func(c *api.Event) { c.Period += by })
		for k := range e.Puts {
			for at := range 7 {
				add(func(c *api.Event) { *value(&c.Puts[k], at) += by })
			}
		}
	}
	for k := range e.Puts {
		for i := range 4 {
			add(func(c *api.Event) { c.Puts[k].Net.Addr[i]++ })
			add(func(c *api.Event) { c.Puts[k].Net.Addr[i] ^= 128 })
		}
	}
	return append(out, otherLists(e)...)
}

// otherLists are an event's copies with more, fewer or turned Puts or Drops.
func otherLists(e api.Event) []api.Event {
	var out []api.Event
	for k := range e.Puts {
		c := copyOf(e)
		c.Puts = slices.Delete(c.Puts, k, k+1)
		out = append(out, c)
		if k > 0 {
			c = copyOf(e)
			c.Puts[k], c.Puts[k-1] = c.Puts[k-1], c.Puts[k]
			out = append(out, c)
		}
	}
	for k := range e.Drops {
		c := copyOf(e)
		c.Drops = slices.Delete(c.Drops, k, k+1)
		out = append(out, c)
		if k > 0 {
			c = copyOf(e)
			c.Drops[k], c.Drops[k-1] = c.Drops[k-1], c.Drops[k]
			out = append(out, c)
		}
	}
	for _, p := range append(puts(250), api.Policy{}) {
		c := copyOf(e)
		c.Puts = append(c.Puts, p)
		out = append(out, c)
	}
	for _, sub := range []int{250, 0} {
		c := copyOf(e)
		c.Drops = append(c.Drops, sub)
		out = append(out, c)
	}
	return out
}

// P12.1: of events that are RIGHT, and of others.
func TestSame(t *testing.T) {
	for _, e := range append(basic(), fullest(), stuffed(), commit(puts(7)), commit(nil, 7), api.Event{}, lease(0, 0), period(0)) {
		holdSame(t, e, e, true)
		holdSame(t, e, copyOf(e), true)
		for _, c := range others(e) {
			holdSame(t, e, c, false)
			holdSame(t, c, copyOf(c), true)
		}
	}
}

// P12.1: no Puts, and no Drops, are one.
func TestSameOfEmptyLists(t *testing.T) {
	empty := func(e api.Event) []api.Event {
		var out []api.Event
		for _, ps := range [][]api.Policy{nil, {}, make([]api.Policy, 0, 3)} {
			for _, ds := range [][]int{nil, {}, make([]int, 0, 3)} {
				c := e
				if len(e.Puts) == 0 {
					c.Puts = ps
				}
				if len(e.Drops) == 0 {
					c.Drops = ds
				}
				out = append(out, c)
			}
		}
		return out
	}
	for _, e := range []api.Event{{}, {Kind: 1}, lease(7, 300), period(5), commit(puts(7)), commit(nil, 7), mixed()} {
		for _, a := range empty(e) {
			for _, b := range empty(e) {
				holdSame(t, a, b, true)
			}
			holdSame(t, a, stuffed(), false)
		}
	}
}

// P12.1: whichever two events.
func TestSameOfEachTwo(t *testing.T) {
	var all []api.Event
	for _, e := range append(basic(), stuffed(), api.Event{}) {
		all = append(all, e)
		all = append(all, others(e)...)
	}
	for _, a := range all {
		for _, b := range all {
			if event.Same(a, b) != alike(a, b) {
				t.Fatalf("Same(%v, %v) = %t", a, b, event.Same(a, b))
			}
		}
	}
}

// P12.2: byte by byte.
func TestBytes(t *testing.T) {
	for _, c := range []struct {
		e    api.Event
		want []byte
	}{
		{period(1), []byte{3, 1}},
		{period(127), []byte{3, 0x7f}},
		{period(128), []byte{3, 0x80, 1}},
		{period(most), []byte{3, 0x80, 0x80, 0x80, 0x80, 0x80, 0x80, 0x40}},
		{lease(1, 1), []byte{2, 1, 1}},
		{lease(7, 300), []byte{2, 7, 0xac, 2}},
		{lease(255, most), []byte{2, 0xff, 1, 0x80, 0x80, 0x80, 0x80, 0x80, 0x80, 0x40}},
		{commit(nil, 1), []byte{1, 1, 1}},
		{commit(nil, 1, 2, 127, 128, 255), []byte{1, 5, 1, 2, 0x7f, 0x80, 1, 0xff, 1}},
		{commit(puts(7)), []byte{1, 0, 7, 0x80, 0x80, 0x9c, 0x50, 16, 0xe8, 7, 0xb8, 23, 100, 0xd0, 15, 0x90, 0xbf, 5, 0x88, 39, 0xc0, 12}},
		{commit(puts(3, 200), 1, 4, 255), []byte{
			1, 3, 1, 4, 0xff, 1,
			3, 0x80, 0x80, 0x8c, 0x50, 16, 0xe8, 7, 0xb8, 23, 100, 0xd0, 15, 0x90, 0xbf, 5, 0x88, 39, 0xc0, 12,
			0xc8, 1, 0x80, 0x80, 0xa0, 0x56, 16, 0xe8, 7, 0xb8, 23, 100, 0xd0, 15, 0x90, 0xbf, 5, 0x88, 39, 0xc0, 12,
		}},
	} {
		if b, err := event.Bytes(c.e); !bytes.Equal(b, c.want) || err != api.OK {
			t.Errorf("Bytes(%v) = % x, %d, not % x", c.e, b, err, c.want)
		}
		holdRead(t, c.want, c.e)
		if e, _ := event.Read(c.want); !event.Same(e, c.e) || !event.Right(e) {
			t.Errorf("Read(% x) = %v, not %v", c.want, e, c.e)
		}
	}
}

// P12.2: the event with the greatest numbers, each of which has its bytes.
func TestBytesOfTheGreatest(t *testing.T) {
	e := fullest()
	for k := range e.Puts {
		e.Puts[k].Sub, e.Drops[k] = 255-2*k, 254-2*k
		e.Puts[k].Net = api.Net{Addr: api.Addr{255, 255, 255, byte(255 - k)}, Bits: 32}
		for at := range 7 {
			*value(&e.Puts[k], at) = most
		}
	}
	slices.Reverse(e.Puts)
	slices.Reverse(e.Drops)
	holdRight(t, e)
	if b, _ := event.Bytes(e); len(b) != 2+8*2+8*(2+5+1+7*7) {
		t.Errorf("%d bytes", len(b))
	}
}

// some are RIGHT events of each kind, with few and with many numbers.
func some() []api.Event {
	out := append(basic(), fullest(), period(1), period(most), lease(1, 1), lease(255, most))
	for n := range 4 {
		for m := range 4 {
			if n+m > 0 {
				out = append(out, commit(puts(row(n, 100, 2)...), row(m, 101, 50)...))
			}
		}
	}
	return out
}

// P12.2
func TestReadOfNone(t *testing.T) {
	for _, b := range [][]byte{nil, {}, {0}, {1}, {2}, {3}, {4}, {0, 0}, {1, 0}, {2, 0}, {2, 1}, {3, 0}, {0x80}, {0x83}} {
		holdReadNone(t, b)
	}
}

// P12.2: bytes that were cut off. Of a commit's, those ahead of a Put are a commit's too, if anything is left.
func TestReadCutOff(t *testing.T) {
	for _, e := range some() {
		whole := bytesOf(numsOf(e)...)
		left := map[int]api.Event{len(whole): e}
		if e.Kind == 1 {
			for k := range e.Puts {
				if k+len(e.Drops) > 0 {
					c := commit(e.Puts[:k], e.Drops...)
					left[len(bytesOf(numsOf(c)...))] = c
				}
			}
		}
		for n := range len(whole) + 1 {
			if want, ok := left[n]; ok {
				holdRead(t, whole[:n], want)
			} else {
				holdReadNone(t, whole[:n])
			}
		}
		// Nor without the first ones.
		for n := 1; n <= len(whole); n++ {
			holdReadWords(t, whole[n:])
		}
	}
}

// P12.2
func TestReadWithMoreBehind(t *testing.T) {
	for _, e := range some() {
		whole := bytesOf(numsOf(e)...)
		for c := range 256 {
			holdReadNone(t, append(slices.Clone(whole), byte(c)))
			holdReadWords(t, append([]byte{byte(c)}, whole...))
		}
		for _, c := range some() {
			holdReadNone(t, slices.Concat(whole, bytesOf(numsOf(c)...)))
		}
		for n := 1; n <= 130; n++ {
			holdReadWords(t, append(slices.Clone(whole), make([]byte, n)...))
			holdReadWords(t, append(slices.Clone(whole), bytes.Repeat([]byte{1}, n)...))
		}
	}
}

// wide is a number in so many bytes, more than it needs.
func wide(n uint64, size int) []byte {
	out := spelt(n)
	for len(out) < size {
		out[len(out)-1] |= 128
		out = append(out, 0)
	}
	return out
}

// beyond is the number that is 2 to the power of 64 times so much above n: it loses that where 64 bits are all there are.
func beyond(n uint64, times byte) []byte {
	out := wide(n, 10)
	out[9] += 2 * times
	return out
}

// P12.2: bytes that layer 2 doesn't write.
func TestReadOfOtherSpellings(t *testing.T) {
	for _, e := range some() {
		l := numsOf(e)
		for k, n := range l {
			ahead, behind := bytesOf(l[:k]...), bytesOf(l[k+1:]...)
			for size := len(spelt(n)) + 1; size <= 12; size++ {
				holdReadNone(t, slices.Concat(ahead, wide(n, size), behind))
			}
			for _, times := range []byte{1, 2, 31, 63} {
				holdReadNone(t, slices.Concat(ahead, beyond(n, times), behind))
			}
			holdReadNone(t, slices.Concat(ahead, []byte{0x80}, behind))
		}
	}
}

// with are numbers with another one at a place.
func with(l []uint64, at int, n uint64) []uint64 {
	out := slices.Clone(l)
	out[at] = n
	return out
}

// P12.2
func TestReadOfOtherKinds(t *testing.T) {
	for _, e := range some() {
		l := numsOf(e)
		for _, kind := range []uint64{0, 4, 5, 127, 128, 129, 130, 131, 255, 256, 257, 258, 259, 1 << 32, 1<<32 + 1, 1<<32 + 2, 1<<32 + 3, 1<<63 + 1, 1<<63 + 2, 1<<63 + 3, greatest - 1, greatest} {
			holdReadNone(t, bytesOf(with(l, 0, kind)...))
		}
		for kind := uint64(1); kind <= 3; kind++ {
			if b := bytesOf(with(l, 0, kind)...); kind != l[0] {
				holdReadWords(t, b)
			}
		}
	}
}

// P12.2: a lease and a period have their numbers, none less and none more.
func TestReadByHowManyNumbers(t *testing.T) {
	for _, kind := range []uint64{2, 3} {
		for n := range 12 {
			l := append([]uint64{kind}, slices.Repeat([]uint64{7}, n)...)
			switch {
			case kind == 2 && n == 2:
				holdRead(t, bytesOf(l...), lease(7, 7))
			case kind == 3 && n == 1:
				holdRead(t, bytesOf(l...), period(7))
			default:
				holdReadNone(t, bytesOf(l...))
			}
		}
	}
}

// P12.2: other numbers for how many Drops there are.
func TestReadByCounts(t *testing.T) {
	for _, e := range some() {
		if e.Kind != 1 {
			continue
		}
		l := numsOf(e)
		follow := uint64(len(l) - 2)
		for n := range follow {
			holdReadWords(t, bytesOf(with(l, 1, n)...))
		}
		for _, n := range []uint64{follow + 1, follow + 2, follow + 10, follow + 100, 1 << 31, 1 << 32, 1<<32 + l[1], 1 << 62, 1<<63 - 2, 1<<63 - 1, 1 << 63, 1<<63 + l[1], greatest - 9, greatest - 2, greatest - 1, greatest} {
			holdReadNone(t, bytesOf(with(l, 1, n)...))
		}
	}
	for n := uint64(1); n <= 20; n++ {
		holdReadNone(t, bytesOf(1, n))
		holdReadWords(t, bytesOf(1, n, 7))
	}
	holdRead(t, bytesOf(1, 1, 7), commit(nil, 7))
	// As many as there are, but more than there may be.
	for n := 1; n <= 126; n++ {
		l := append([]uint64{1, uint64(n)}, make([]uint64, n)...)
		for i := range n {
			l[2+i] = uint64(i + 1)
		}
		if ok := holdReadWords(t, bytesOf(l...)); ok != (n <= 8) {
			t.Errorf("%d Drops: %t", n, ok)
		}
	}
}

// P12.2: Puts that have too few numbers, or too many.
func TestReadOfPutsCutOff(t *testing.T) {
	for n := 1; n <= 8; n++ {
		for _, drops := range [][]int{nil, {1}, {1, 255}, row(8, 101, 2)} {
			e := commit(puts(row(n, 2, 2)...), drops...)
			l := numsOf(e)
			for k := 1; k <= 9; k++ {
				holdReadNone(t, bytesOf(l[:len(l)-k]...))
				holdReadNone(t, bytesOf(append(slices.Clone(l), policyNums(sold(100))[:k]...)...))
			}
			// One number less in the midst, or one more.
			for k := len(drops) + 2; k < len(l); k++ {
				holdReadNone(t, bytesOf(slices.Delete(slices.Clone(l), k, k+1)...))
				holdReadNone(t, bytesOf(slices.Insert(slices.Clone(l), k, 1600)...))
			}
		}
	}
}

// P12.2: Puts that aren't RIGHT, by each number at each place.
func TestReadOfPutsThatAreNotRight(t *testing.T) {
	wrong := map[int][]uint64{
		0: {0, 256, 257, 1 << 32, 1<<32 + 2, 1 << 63, greatest},
		// An address with bits behind those that count, and none at all.
		1: {0x0a010001, 0xffffffff, 1 << 32, 1<<32 + 0x0b000000, 1 << 63, greatest},
		2: {33, 256 + 16, 1<<32 + 16, 1<<63 + 16, greatest},
		8: {0, 1, 1499},
		9: {0, 1, 1499},
	}
	for at := 3; at <= 9; at++ {
		wrong[at] = append(wrong[at], most+1, 1<<63, 1<<63+1600, greatest)
	}
	for _, n := range []int{1, 2, 8} {
		for _, drops := range [][]int{nil, {1, 255}} {
			l := numsOf(commit(puts(row(n, 2, 2)...), drops...))
			for k := range n {
				for at, ns := range wrong {
					for _, m := range ns {
						holdReadNone(t, bytesOf(with(l, 2+len(drops)+10*k+at, m)...))
					}
				}
			}
		}
	}
}

// P12.2: bytes of what would be an event, were it RIGHT.
func TestReadOfEventsThatAreNotRight(t *testing.T) {
	for _, b := range [][]byte{
		bytesOf(1, 0), bytesOf(2, 0, 1), bytesOf(2, 1, 0), bytesOf(2, 256, 1), bytesOf(2, 1<<32+1, 1), bytesOf(2, 1<<63, 1), bytesOf(2, 1<<63+1, 1), bytesOf(2, greatest, 1),
		bytesOf(2, 1, most+1), bytesOf(2, 1, greatest), bytesOf(3, 0), bytesOf(3, most+1), bytesOf(3, greatest),
		bytesOf(1, 1, 0), bytesOf(1, 1, 256), bytesOf(1, 1, 1<<32+1), bytesOf(1, 1, 1<<63+1), bytesOf(1, 1, greatest), bytesOf(1, 2, 1, 1), bytesOf(1, 2, 2, 1), bytesOf(1, 3, 1, 3, 2), bytesOf(1, 2, 1, greatest),
	} {
		holdReadNone(t, b)
	}
	for _, e := range []api.Event{
		commit(puts(7), 7), commit(puts(7, 9), 7), commit(puts(7, 9), 9), commit(puts(7, 9), 1, 7, 9),
		commit(puts(7, 7)), commit(puts(9, 7)), commit(puts(row(9, 2, 2)...)), commit(puts(row(12, 2, 2)...)),
		commit(puts(row(13, 2, 2)...)), commit(puts(row(25, 2, 2)...)), commit(puts(row(9, 2, 2)...), 1), commit(puts(7), row(9, 11, 2)...), commit(nil, row(200, 1, 1)...),
	} {
		holdWrong(t, e)
		holdReadNone(t, bytesOf(numsOf(e)...))
	}
	e := commit(puts(7, 9))
	e.Puts[1].Net = e.Puts[0].Net
	holdReadNone(t, bytesOf(numsOf(e)...))
}

// P12.2: all bytes, as far as there are up to two, and up to six of a few.
func TestReadOfAllShortOnes(t *testing.T) {
	for a := range 256 {
		holdReadWords(t, []byte{byte(a)})
		for b := range 256 {
			holdReadWords(t, []byte{byte(a), byte(b)})
		}
	}
	met := 0
	few := []byte{0, 1, 2, 3, 4, 0x7f, 0x80, 0x81, 0xff}
	for n := 3; n <= 6; n++ {
		places := make([]int, n)
		for k := 0; k >= 0; {
			b := make([]byte, n)
			for i, p := range places {
				b[i] = few[p]
			}
			if holdReadWords(t, b) {
				met++
			}
			for k = n - 1; k >= 0; k-- {
				if places[k]++; places[k] < len(few) {
					break
				}
				places[k] = 0
			}
		}
	}
	if met < 100 {
		t.Errorf("%d events are too few", met)
	}
}

// P12.2: whatever numbers and bytes come.
func TestReadAgainstWords(t *testing.T) {
	from := rand.New(rand.NewSource(122))
	met := map[bool]int{}
	for range 60000 {
		l := numsOf(anyEvent(from))
		for range from.Intn(3) {
			k := from.Intn(len(l))
			switch from.Intn(4) {
			case 0:
				l[k] = pick(from, 0, 1, 2, 3, 16, 255, 256, 1500, most, most+1, greatest)
			case 1:
				l = append(slices.Delete(l, k, k+1), 1600)
			case 2:
				l = slices.Insert(l, k, pick[uint64](from, 0, 1, 7, 1600))
			}
		}
		b := bytesOf(l...)
		if from.Intn(6) == 0 {
			b[from.Intn(len(b))] ^= 1 << from.Intn(8)
		}
		met[holdReadWords(t, b)]++
	}
	if met[true] < 5000 || met[false] < 5000 {
		t.Errorf("%v are too few", met)
	}
}

// P12.2: what is read is written again, and is the same.
func TestReadOfBytes(t *testing.T) {
	for _, e := range some() {
		b, _ := event.Bytes(e)
		read, err := event.Read(b)
		if err != api.OK || !event.Same(read, e) {
			t.Errorf("Read(% x) = %v, %d, not %v", b, read, err, e)
		}
		if again, err := event.Bytes(read); !bytes.Equal(again, b) || err != api.OK {
			t.Errorf("Bytes(%v) = % x, %d, not % x", read, again, err, b)
		}
	}
}

// roomy is an event whose lists have spare room, with something in it.
func roomy(e api.Event) api.Event {
	e.Puts = append(slices.Clone(e.Puts), sold(251), api.Policy{Sub: -5})[:len(e.Puts)]
	e.Drops = append(slices.Clone(e.Drops), 251, -5)[:len(e.Drops)]
	return e
}

// whole is an event with its lists' spare room.
func whole(e api.Event) api.Event {
	e.Puts, e.Drops = e.Puts[:cap(e.Puts)], e.Drops[:cap(e.Drops)]
	return e
}

// spoil writes over all that an event's lists hold.
func spoil(e api.Event) {
	e = whole(e)
	for i := range e.Puts {
		e.Puts[i] = api.Policy{Sub: -9}
	}
	for i := range e.Drops {
		e.Drops[i] = -9
	}
}

func spoilBytes(b []byte) {
	b = b[:cap(b)]
	for i := range b {
		b[i] = 0xee
	}
}

// P12.1, P12.2: no call changes an event.
func TestEventsAreNotChanged(t *testing.T) {
	for _, e := range append(some(), stuffed(), commit(nil), commit(puts(2, 1)), commit(puts(1), 1), commit(nil, 2, 1), commit(puts(row(9, 2, 2)...), row(9, 1, 2)...)) {
		r := roomy(e)
		want := copyOf(whole(r))
		b, err := event.Bytes(r)
		right := event.Right(r)
		same := event.Same(r, roomy(e)) && event.Same(roomy(e), r)
		if !same || !reflect.DeepEqual(whole(r), want) {
			t.Errorf("%v became %v", want, whole(r))
		}
		// None is kept either.
		bytesWere := slices.Clone(b)
		spoil(r)
		if !bytes.Equal(b, bytesWere) {
			t.Errorf("% x became % x", bytesWere, b)
		}
		if again, e2 := event.Bytes(e); !bytes.Equal(again, b) || e2 != err || event.Right(e) != right {
			t.Errorf("Bytes(%v) = % x, %d, and % x, %d before", e, again, e2, b, err)
		}
	}
}

// P12.2: nor do Bytes share anything with one another.
func TestBytesAreNew(t *testing.T) {
	for _, e := range some() {
		first, _ := event.Bytes(e)
		second, _ := event.Bytes(e)
		want := slices.Clone(second)
		spoilBytes(first)
		if !bytes.Equal(second, want) {
			t.Errorf("% x became % x", want, second)
		}
		if third, _ := event.Bytes(e); !bytes.Equal(third, want) {
			t.Errorf("Bytes(%v) = % x, not % x", e, third, want)
		}
	}
}

// P12.2: what Read is given stays as it is, and what it answers is its own.
func TestReadIsNew(t *testing.T) {
	for _, e := range some() {
		plainBytes := bytesOf(numsOf(e)...)
		room := append(slices.Clone(plainBytes), 3, 5, 0x80, 0xff)
		want := slices.Clone(room)
		given := room[:len(plainBytes)]
		first, _ := event.Read(given)
		second, _ := event.Read(given)
		if !bytes.Equal(room, want) {
			t.Errorf("% x became % x", want, room)
		}
		spoil(first)
		if !bytes.Equal(room, want) || !alike(second, e) {
			t.Errorf("% x and %v behind a change of another event", room, second)
		}
		spoilBytes(room)
		if !alike(second, e) {
			t.Errorf("%v became %v", e, second)
		}
		holdRead(t, plainBytes, e)
	}
	for _, b := range [][]byte{{4, 1, 1}, {1, 0}, {1, 9, 1}, {2, 1, 0x80}} {
		want := slices.Clone(b)
		holdReadNone(t, b[:len(b)-1])
		holdReadNone(t, b)
		if !bytes.Equal(b, want) {
			t.Errorf("% x became % x", want, b)
		}
	}
}
