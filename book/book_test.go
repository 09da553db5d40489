package book_test

import (
	"bytes"
	"math"
	"math/big"
	"math/rand"
	"reflect"
	"slices"
	"testing"

	"floodgate/api"
	"floodgate/book"
	"floodgate/event"
	"floodgate/policy"
)

// Here the sizes stand as the chapter writes them, not as package api does: numbers to 2 to the power of 48, 8 Entries, Subs to 255.

const (
	most     = uint64(1) << 48
	greatest = uint64(math.MaxUint64)
	quota    = uint64(90000)
)

// sold is a policy of a subscriber, RIGHT if that is; no two subscribers have the same Net.
func sold(sub int) api.Policy {
	return api.Policy{
		Sub: sub, Net: api.Net{Addr: api.Addr{10, byte(sub)}, Bits: 16},
		Rate: 1000, Burst: 3000, SlowRate: 100, SlowBurst: 2000, Quota: quota, Lease: 5000, Quantum: 1600,
	}
}

// other is another policy of the same subscriber, each field of which is another one.
func other(sub int) api.Policy {
	return api.Policy{
		Sub: sub, Net: api.Net{Addr: api.Addr{11, byte(sub), 128}, Bits: 17},
		Rate: 1, Burst: 2, SlowRate: 3, SlowBurst: 4, Quota: 50, Lease: 1501, Quantum: 1502,
	}
}

func each[T any](of func(int) T, subs ...int) []T {
	var out []T
	for _, sub := range subs {
		out = append(out, of(sub))
	}
	return out
}

func entry(sub int, granted uint64) api.Entry {
	return api.Entry{Policy: sold(sub), Granted: granted}
}

// granted is an Entry of which something was granted.
func granted(sub int) api.Entry { return entry(sub, 300+uint64(sub)) }

func holding(period uint64, l ...api.Entry) api.Book {
	return api.Book{Period: period, Entries: l}
}

// held is a book of subscribers of which something was granted.
func held(subs ...int) api.Book { return holding(5, each(granted, subs...)...) }

// row are so many Subs that rise by step.
func row(n, from, step int) []int {
	var out []int
	for i := range n {
		out = append(out, from+step*i)
	}
	return out
}

func commit(puts []api.Policy, drops ...int) api.Event {
	return api.Event{Kind: 1, Puts: puts, Drops: drops}
}

func lease(sub int, granted uint64) api.Event {
	return api.Event{Kind: 2, Sub: sub, Granted: granted}
}

func period(n uint64) api.Event { return api.Event{Kind: 3, Period: n} }

func copyOf(b api.Book) api.Book {
	b.Entries = slices.Clone(b.Entries)
	return b
}

// changed is a book's copy that something was done to.
func changed(b api.Book, do func(*api.Book)) api.Book {
	c := copyOf(b)
	do(&c)
	return c
}

// alike is Same by its words.
func alike(a, b api.Book) bool {
	if len(a.Entries) == 0 && len(b.Entries) == 0 {
		return a.Period == b.Period
	}
	return reflect.DeepEqual(a, b)
}

// can is Right by its words.
func can(b api.Book) bool {
	for i, x := range b.Entries {
		if i == 8 || !policy.Right(x.Policy) || x.Granted > most {
			return false
		}
		for _, y := range b.Entries[:i] {
			if y.Policy.Sub >= x.Policy.Sub || y.Policy.Net == x.Policy.Net {
				return false
			}
		}
	}
	return b.Period >= 1 && b.Period <= most
}

// applied is Apply by its words.
func applied(b api.Book, e api.Event) (api.Book, bool) {
	if !can(b) || !event.Right(e) {
		return b, false
	}
	switch e.Kind {
	case 1:
		return committed(b, e)
	case 2:
		for i, x := range b.Entries {
			if x.Policy.Sub == e.Sub {
				ok := x.Granted <= e.Granted && e.Granted <= x.Policy.Quota
				if !ok {
					return b, false
				}
				return changed(b, func(c *api.Book) { c.Entries[i].Granted = e.Granted }), true
			}
		}
		return b, false
	}
	if e.Period != b.Period+1 {
		return b, false
	}
	out := holding(e.Period)
	for _, x := range b.Entries {
		out.Entries = append(out.Entries, api.Entry{Policy: x.Policy})
	}
	return out, true
}

// committed keeps the Entries by Sub, so that their order comes of counting.
func committed(b api.Book, e api.Event) (api.Book, bool) {
	there := map[int]api.Entry{}
	for _, x := range b.Entries {
		there[x.Policy.Sub] = x
	}
	for _, sub := range e.Drops {
		if there[sub].Policy.Sub != sub {
			return b, false
		}
		delete(there, sub)
	}
	for _, p := range e.Puts {
		there[p.Sub] = api.Entry{Policy: p, Granted: there[p.Sub].Granted}
	}
	out := holding(b.Period)
	for sub := range 256 {
		if x, ok := there[sub]; ok {
			out.Entries = append(out.Entries, x)
		}
	}
	if !can(out) {
		return b, false
	}
	return out, true
}

// numsOf are the numbers of a book, RIGHT or not, by their words.
func numsOf(b api.Book) []uint64 {
	out := []uint64{b.Period}
	for _, x := range b.Entries {
		p := x.Policy
		a := p.Net.Addr
		number := uint64(a[0])*(1<<24) + uint64(a[1])*(1<<16) + uint64(a[2])*(1<<8) + uint64(a[3])
		out = append(out, uint64(p.Sub), number, uint64(p.Net.Bits), p.Rate, p.Burst, p.SlowRate, p.SlowBurst, p.Quota, p.Lease, p.Quantum, x.Granted)
	}
	return out
}

// spelt is layer 2's Put by its words.
func spelt(n uint64) []byte {
	out := []byte{byte(n % 128)}
	for n /= 128; n > 0; n /= 128 {
		out[len(out)-1] += 128
		out = append(out, byte(n%128))
	}
	return out
}

func bytesOf(l ...uint64) []byte {
	var out []byte
	for _, n := range l {
		out = append(out, spelt(n)...)
	}
	return out
}

// numbers are those whose bytes these are, as whole numbers of any size till they are held against their own spelling.
func numbers(b []byte) ([]uint64, bool) {
	var out []uint64
	for len(b) > 0 {
		size := 1 + slices.IndexFunc(b, func(c byte) bool { return c < 128 })
		sum := new(big.Int)
		for i := range size {
			digit := big.NewInt(int64(b[i] % 128))
			sum.Add(sum, digit.Lsh(digit, uint(7*i)))
		}
		if size == 0 || !sum.IsUint64() || !bytes.Equal(spelt(sum.Uint64()), b[:size]) {
			return nil, false
		}
		out = append(out, sum.Uint64())
		b = b[size:]
	}
	return out, true
}

// readOf is Read by its words: a book is made of whatever lies there, and held against its own bytes.
func readOf(b []byte) (api.Book, bool) {
	l, ok := numbers(b)
	if !ok || len(l) == 0 {
		return api.Book{}, false
	}
	out := holding(l[0])
	for l = l[1:]; len(l) >= 11; l = l[11:] {
		n := min(l[1], 1<<32-1)
		out.Entries = append(out.Entries, api.Entry{Granted: l[10], Policy: api.Policy{
			Sub:  int(min(l[0], 256)),
			Net:  api.Net{Addr: api.Addr{byte(n >> 24), byte(n >> 16), byte(n >> 8), byte(n)}, Bits: int(min(l[2], 33))},
			Rate: l[3], Burst: l[4], SlowRate: l[5], SlowBurst: l[6], Quota: l[7], Lease: l[8], Quantum: l[9],
		}})
	}
	if !can(out) || !bytes.Equal(bytesOf(numsOf(out)...), b) {
		return api.Book{}, false
	}
	return out, true
}

func holdRead(t *testing.T, b []byte, want api.Book) {
	t.Helper()
	if got, err := book.Read(b); !alike(got, want) || err != api.OK {
		t.Errorf("Read(% x) = %v, %d, not %v", b, got, err, want)
	}
}

func holdReadNone(t *testing.T, b []byte) {
	t.Helper()
	if got, err := book.Read(b); !alike(got, api.Book{}) || err != api.ErrBook {
		t.Errorf("Read(% x) = %v, %d", b, got, err)
	}
}

// holdReadWords holds Read against its words, and tells whether there is a book.
func holdReadWords(t *testing.T, b []byte) bool {
	t.Helper()
	want, ok := readOf(b)
	if ok {
		holdRead(t, b, want)
	} else {
		holdReadNone(t, b)
	}
	return ok
}

// holdBecomes: behind the event the book is that one.
func holdBecomes(t *testing.T, b api.Book, e api.Event, want api.Book) {
	t.Helper()
	if got, err := book.Apply(b, e); !alike(got, want) || err != api.OK {
		t.Errorf("Apply(%v, %v) = %v, %d, not %v", b, e, got, err, want)
	}
}

// holdRefused: the event can't be in the book.
func holdRefused(t *testing.T, b api.Book, e api.Event) {
	t.Helper()
	if got, err := book.Apply(b, e); !alike(got, b) || err != api.ErrBook {
		t.Errorf("Apply(%v, %v) = %v, %d", b, e, got, err)
	}
}

// holdApply holds Apply against its words, and tells whether the event can be in the book.
func holdApply(t *testing.T, b api.Book, e api.Event) bool {
	t.Helper()
	want, ok := applied(b, e)
	if ok {
		holdBecomes(t, b, e, want)
	} else {
		holdRefused(t, b, e)
	}
	return ok
}

// holdRight holds a book that is RIGHT against Right, Bytes and Read.
func holdRight(t *testing.T, b api.Book) {
	t.Helper()
	if !book.Right(b) {
		t.Errorf("%v isn't RIGHT", b)
	}
	want := bytesOf(numsOf(b)...)
	if got, err := book.Bytes(b); !bytes.Equal(got, want) || err != api.OK {
		t.Errorf("Bytes(%v) = % x, %d, not % x", b, got, err, want)
	}
	holdRead(t, want, b)
}

// holdWrong holds a book that isn't RIGHT against these, and against Apply of events that another book could take.
func holdWrong(t *testing.T, b api.Book) {
	t.Helper()
	if book.Right(b) {
		t.Errorf("%v is RIGHT", b)
	}
	if got, err := book.Bytes(b); len(got) != 0 || err != api.ErrBook {
		t.Errorf("Bytes(%v) = % x, %d", b, got, err)
	}
	holdReadWords(t, bytesOf(numsOf(b)...))
	holdRefused(t, b, commit(each(sold, 250)))
	holdRefused(t, b, period(b.Period+1))
	for _, x := range b.Entries[:min(len(b.Entries), 9)] {
		holdRefused(t, b, commit(nil, x.Policy.Sub))
		holdRefused(t, b, commit(each(sold, x.Policy.Sub)))
		holdRefused(t, b, lease(x.Policy.Sub, max(x.Granted, 1)))
	}
}

func hold(t *testing.T, b api.Book, right bool) {
	t.Helper()
	if right {
		holdRight(t, b)
	} else {
		holdWrong(t, b)
	}
}

// fullest is a book with as much in it as may be.
func fullest() api.Book {
	b := holding(most, each(granted, row(8, 248, 1)...)...)
	for i := range b.Entries {
		x := &b.Entries[i]
		x.Granted = most
		x.Policy.Net = api.Net{Addr: api.Addr{255, 255, 255, byte(248 + i)}, Bits: 32}
		for at := range 7 {
			*value(&x.Policy, at) = most
		}
	}
	return b
}

// some are books that are RIGHT.
func some() []api.Book {
	return []api.Book{
		holding(1), holding(most), held(1), held(255), held(2, 100), held(3, 7, 200), held(row(8, 2, 3)...), fullest(),
		holding(1, entry(7, 0)), holding(9, entry(7, quota), entry(8, 0), entry(9, most)), holding(128, entry(5, 1), api.Entry{Policy: other(6), Granted: 51}),
	}
}

// wrong are books that aren't RIGHT.
func wrong() []api.Book {
	return []api.Book{
		{}, holding(0, granted(7)), holding(most+1, granted(7)), holding(greatest),
		held(row(9, 2, 3)...), held(7, 7), held(9, 7), held(0), held(256), held(1, 2, 2), holding(5, api.Entry{}),
		holding(5, granted(2), entry(7, most+1)), holding(5, entry(7, greatest), granted(8)),
		changed(held(2, 7, 9), func(b *api.Book) { b.Entries[2].Policy.Net = b.Entries[0].Policy.Net }),
		changed(held(2, 7, 9), func(b *api.Book) { b.Entries[1].Policy.Lease = 1499 }),
	}
}

// value is where one of a policy's seven values stands.
func value(p *api.Policy, at int) *uint64 {
	return []*uint64{&p.Rate, &p.Burst, &p.SlowRate, &p.SlowBurst, &p.Quota, &p.Lease, &p.Quantum}[at]
}

// The chapter's sizes are package api's.
func TestSizes(t *testing.T) {
	if api.EvCommit != 1 || api.EvLease != 2 || api.EvPeriod != 3 || api.ErrBook != 131 {
		t.Error(api.EvCommit, api.EvLease, api.EvPeriod, api.ErrBook)
	}
	if api.MaxSub != 255 || api.MaxSubs != 8 || api.MaxValue != most {
		t.Error(api.MaxSub, api.MaxSubs, api.MaxValue)
	}
}

// P13.3: the chapter's own example.
func TestExample(t *testing.T) {
	if b, err := book.Bytes(api.Book{Period: 1}); !bytes.Equal(b, []byte{1}) || err != api.OK {
		t.Errorf("% x, %d", b, err)
	}
	holdRead(t, []byte{1}, api.Book{Period: 1})
}

// P13.1
func TestRight(t *testing.T) {
	for _, b := range some() {
		holdRight(t, b)
	}
	for _, b := range wrong() {
		holdWrong(t, b)
	}
}

// P13.1
func TestRightByPeriod(t *testing.T) {
	for n, right := range map[uint64]bool{
		0: false, 1: true, 2: true, 127: true, 128: true, 1 << 31: true, 1 << 32: true, most - 1: true, most: true,
		most + 1: false, 1 << 49: false, 1<<63 - 1: false, 1 << 63: false, 1<<63 + 1: false, greatest - 1: false, greatest: false,
	} {
		hold(t, holding(n), right)
		hold(t, holding(n, granted(7)), right)
		hold(t, holding(n, fullest().Entries...), right)
	}
}

// P13.1: how many Entries there are.
func TestRightByHowMany(t *testing.T) {
	for n := range 14 {
		hold(t, held(row(n, 1, 1)...), n <= 8)
		hold(t, held(row(n, 2, 19)...), n <= 8)
		hold(t, holding(1, each(granted, row(n, 255-n, 1)...)...), n <= 8)
	}
	for _, n := range []int{16, 64, 120, 255, 256, 264, 1 << 12} {
		holdWrong(t, held(row(n, 1, 1)...))
	}
}

// P13.1: Subs that rise, and others.
func TestRightBySubs(t *testing.T) {
	for _, c := range []struct {
		subs  []int
		right bool
	}{
		{[]int{1}, true},
		{[]int{255}, true},
		{[]int{0}, false},
		{[]int{256}, false},
		{[]int{-1}, false},
		{[]int{1<<32 + 1}, false},
		{[]int{math.MaxInt}, false},
		{[]int{math.MinInt}, false},
		{[]int{1, 2}, true},
		{[]int{1, 255}, true},
		{[]int{254, 255}, true},
		{[]int{1, 1}, false},
		{[]int{2, 1}, false},
		{[]int{255, 256}, false},
		{[]int{0, 1}, false},
		{[]int{1, 3, 2}, false},
		{[]int{1, 2, 1}, false},
		{[]int{1, 2, 2}, false},
		{[]int{1, 5, 3, 7}, false},
		{[]int{1, 2, 3, 4, 5, 6, 7, 8}, true},
		{[]int{1, 2, 3, 4, 5, 6, 8, 7}, false},
		{[]int{2, 1, 3, 4, 5, 6, 7, 8}, false},
		{[]int{1, 2, 3, 5, 4, 6, 7, 8}, false},
		{[]int{1, 2, 3, 4, 5, 6, 7, 7}, false},
	} {
		hold(t, held(c.subs...), c.right)
	}
}

// P13.1: at each place a Sub, a Net, a policy or a Granted that can't be.
func TestRightAtEachPlace(t *testing.T) {
	for n := 1; n <= 8; n++ {
		right := held(row(n, 10, 10)...)
		holdRight(t, right)
		for k := range n {
			set := func(do func(*api.Entry)) api.Book {
				return changed(right, func(b *api.Book) { do(&b.Entries[k]) })
			}
			for _, sub := range []int{0, -1, 256, 1<<32 + 10, math.MaxInt, math.MinInt} {
				holdWrong(t, set(func(x *api.Entry) { x.Policy.Sub = sub }))
			}
			for _, net := range []api.Net{{Addr: api.Addr{12}, Bits: 33}, {Addr: api.Addr{12}, Bits: -1}, {Addr: api.Addr{12, 1}, Bits: 15}} {
				holdWrong(t, set(func(x *api.Entry) { x.Policy.Net = net }))
			}
			for _, net := range []api.Net{{}, {Bits: 32}, {Addr: api.Addr{10}, Bits: 8}, {Addr: api.Addr{255, 255, 255, 255}, Bits: 32}} {
				holdRight(t, set(func(x *api.Entry) { x.Policy.Net = net }))
			}
			for at := range 7 {
				for m, ok := range map[uint64]bool{0: at < 5, 1499: at < 5, 1500: true, most: true, most + 1: false, greatest: false} {
					hold(t, set(func(x *api.Entry) { *value(&x.Policy, at) = m }), ok)
				}
			}
			for m, ok := range map[uint64]bool{0: true, 1: true, quota: true, quota + 1: true, most - 1: true, most: true, most + 1: false, 1 << 63: false, greatest: false} {
				hold(t, set(func(x *api.Entry) { x.Granted = m }), ok)
			}
			holdWrong(t, set(func(x *api.Entry) { *x = api.Entry{} }))
		}
	}
}

// P13.1: whichever two Entries have the same Net, or the same Sub.
func TestRightByTwo(t *testing.T) {
	for n := 2; n <= 8; n++ {
		for i := range n {
			for j := range i {
				holdWrong(t, changed(held(row(n, 10, 10)...), func(b *api.Book) { b.Entries[i].Policy.Net = b.Entries[j].Policy.Net }))
				holdWrong(t, changed(held(row(n, 10, 10)...), func(b *api.Book) { b.Entries[i].Policy.Sub = b.Entries[j].Policy.Sub }))
				holdWrong(t, changed(held(row(n, 10, 10)...), func(b *api.Book) { b.Entries[i], b.Entries[j] = b.Entries[j], b.Entries[i] }))
				// The same in all other fields is no matter.
				holdRight(t, changed(held(row(n, 10, 10)...), func(b *api.Book) { b.Entries[i].Granted = b.Entries[j].Granted }))
			}
		}
	}
}

// P13.1: nil and empty are one.
func TestEmptyLists(t *testing.T) {
	lists := [][]api.Entry{nil, {}, make([]api.Entry, 0, 3), held(1, 2).Entries[:0], held(1, 2).Entries[2:]}
	for _, l := range lists {
		b := holding(1, l...)
		holdRight(t, b)
		holdBecomes(t, b, period(2), holding(2))
		holdBecomes(t, b, commit(each(sold, 7)), holding(1, entry(7, 0)))
		holdRefused(t, b, lease(7, 1))
		holdWrong(t, holding(0, l...))
		for _, m := range lists {
			holdSame(t, b, holding(1, m...), true)
			holdSame(t, b, holding(2, m...), false)
			holdSame(t, b, held(append([]int{7}, row(len(m), 9, 1)...)...), false)
		}
	}
}

func holdSame(t *testing.T, a, b api.Book, want bool) {
	t.Helper()
	if got := book.Same(a, b); got != want {
		t.Errorf("Same(%v, %v) = %t", a, b, got)
	}
	if got := book.Same(b, a); got != want {
		t.Errorf("Same(%v, %v) = %t", b, a, got)
	}
}

// others are a book's copies each of which differs in a single field from it.
func others(b api.Book) []api.Book {
	var out []api.Book
	add := func(do func(*api.Book)) { out = append(out, changed(b, do)) }
	for _, by := range []uint64{1, greatest, 256, 1 << 32, 1 << 63} {
		add(func(c *api.Book) { c.Period += by })
		for k := range b.Entries {
			add(func(c *api.Book) { c.Entries[k].Granted += by })
			add(func(c *api.Book) { c.Entries[k].Policy.Sub += int(by) })
			add(func(c *api.Book) { c.Entries[k].Policy.Net.Bits += int(by) })
			for at := range 7 {
				add(func(c *api.Book) { *value(&c.Entries[k].Policy, at) += by })
			}
		}
	}
	for k := range b.Entries {
		for i := range 4 {
			add(func(c *api.Book) { c.Entries[k].Policy.Net.Addr[i]++ })
			add(func(c *api.Book) { c.Entries[k].Policy.Net.Addr[i] ^= 128 })
		}
	}
	return out
}

// P13.1: books that differ in one field alone.
func TestSameByEachField(t *testing.T) {
	for _, b := range append(some(), wrong()...) {
		holdSame(t, b, copyOf(b), true)
		for _, c := range others(b) {
			holdSame(t, b, c, false)
		}
	}
}

// P13.1: in their order, and in how many there are.
func TestSameByLists(t *testing.T) {
	for _, b := range append(some(), held(7, 8, 7, 9)) {
		for i := range b.Entries {
			for j := range i {
				turned := changed(b, func(c *api.Book) { c.Entries[i], c.Entries[j] = c.Entries[j], c.Entries[i] })
				holdSame(t, b, turned, b.Entries[i] == b.Entries[j])
			}
			holdSame(t, b, changed(b, func(c *api.Book) { c.Entries = slices.Delete(c.Entries, i, i+1) }), false)
			holdSame(t, b, changed(b, func(c *api.Book) { c.Entries = slices.Insert(c.Entries, i, b.Entries[i]) }), false)
			holdSame(t, b, changed(b, func(c *api.Book) { c.Entries = c.Entries[:i] }), false)
		}
		holdSame(t, b, changed(b, func(c *api.Book) { c.Entries = append(c.Entries, api.Entry{}) }), false)
		holdSame(t, b, changed(b, func(c *api.Book) { c.Entries = append(c.Entries, granted(250)) }), false)
	}
	books := append(some(), wrong()...)
	for i, a := range books {
		for j, b := range books {
			holdSame(t, a, b, i == j)
		}
	}
}

func holdFind(t *testing.T, b api.Book, sub int, want api.Entry, ok bool) {
	t.Helper()
	if got, is := book.Find(b, sub); got != want || is != ok {
		t.Errorf("Find(%v, %d) = %v, %t, not %v, %t", b, sub, got, is, want, ok)
	}
}

// P13.1: a Sub that is there, and one that isn't, in whatever book.
func TestFind(t *testing.T) {
	for _, b := range append(some(), wrong()...) {
		first := map[int]api.Entry{}
		for _, x := range slices.Backward(b.Entries) {
			first[x.Policy.Sub] = x
		}
		for sub := -300; sub <= 600; sub++ {
			x, ok := first[sub]
			holdFind(t, b, sub, x, ok)
		}
		for _, sub := range []int{math.MinInt, math.MaxInt, 1<<32 + 7, -1<<32 + 7, 1 << 32} {
			holdFind(t, b, sub, api.Entry{}, false)
		}
	}
	holdFind(t, held(2, 7, 9), 7, granted(7), true)
	holdFind(t, held(2, 7, 9), 8, api.Entry{}, false)
	holdFind(t, holding(5, entry(-4, 1)), -4, entry(-4, 1), true)
	holdFind(t, holding(5, granted(2), api.Entry{Granted: 9}), 0, api.Entry{Granted: 9}, true)
}

// P13.1: the first one of those of a Sub, in books that aren't RIGHT.
func TestFindOfTheFirst(t *testing.T) {
	for n := 2; n <= 10; n++ {
		for i := range n {
			for j := range i {
				b := held(row(n, 10, 10)...)
				b.Entries[i], b.Entries[j] = entry(7, 22), entry(7, 11)
				holdFind(t, b, 7, entry(7, 11), true)
				b.Entries[i], b.Entries[j] = b.Entries[j], b.Entries[i]
				holdFind(t, b, 7, entry(7, 22), true)
				// By Subs that don't rise.
				b.Entries[j] = entry(255, 33)
				holdFind(t, b, 255, entry(255, 33), true)
				holdFind(t, b, 7, entry(7, 11), true)
			}
		}
	}
}

// P13.2: a book that isn't RIGHT takes no event.
func TestApplyToWrongBooks(t *testing.T) {
	for _, b := range wrong() {
		for _, e := range events() {
			holdRefused(t, b, e)
		}
		for sub := 1; sub <= 255; sub++ {
			// Not even one that would mend it.
			holdRefused(t, b, commit(nil, sub))
			holdRefused(t, b, commit(each(sold, sub)))
			holdRefused(t, b, lease(sub, 1000))
		}
		for n := range uint64(20) {
			holdRefused(t, b, period(n))
		}
		holdRefused(t, b, period(most))
	}
	for _, b := range some() {
		for i := range b.Entries {
			c := changed(b, func(c *api.Book) { c.Entries[i].Granted = most + 1 })
			holdRefused(t, c, commit(nil, b.Entries[i].Policy.Sub))
			holdRefused(t, c, period(b.Period+1))
		}
	}
}

// events are some that are RIGHT.
func events() []api.Event {
	return []api.Event{
		commit(each(sold, 7)), commit(nil, 7), commit(each(sold, 2, 7), 9), commit(each(other, 2), 7), commit(each(sold, row(8, 2, 3)...)), commit(nil, row(8, 2, 3)...),
		lease(7, 1), lease(7, 307), lease(7, quota), lease(2, 400), lease(255, most),
		period(1), period(2), period(6), period(most),
	}
}

// P13.2: an event that isn't RIGHT, and would do something, were it.
func TestApplyOfWrongEvents(t *testing.T) {
	nine := commit(nil, row(9, 1, 1)...)
	b := held(2, 7, 9)
	for _, e := range []api.Event{
		{}, {Kind: 4}, {Kind: -1, Period: 6}, {Kind: 0, Period: 6}, {Kind: 4, Period: 6}, {Kind: 1<<32 + 3, Period: 6}, {Kind: 1<<32 + 1, Drops: []int{7}}, {Kind: 0, Sub: 7, Granted: 400}, {Kind: 4, Sub: 7, Granted: 400}, {Kind: 5, Puts: each(sold, 7)},
		commit(nil), commit([]api.Policy{}, []int{}...), commit(each(sold, 7), 7), commit(each(sold, 7, 11), 9, 11), commit(each(sold, 9, 7)), commit(each(sold, 7, 7)), commit(nil, 7, 7), commit(nil, 9, 7),
		commit(each(sold, 0)), commit(each(sold, 256)), commit(nil, 0), commit(nil, 256), commit(nil, -7), nine, commit(each(sold, row(9, 2, 3)...)), commit(make([]api.Policy, 1)),
		{Kind: 1, Sub: 7, Drops: []int{7}}, {Kind: 1, Granted: 1, Drops: []int{7}}, {Kind: 1, Period: 6, Drops: []int{7}},
		lease(7, 0), lease(0, 400), lease(256, 400), lease(7, most+1), lease(7, greatest), lease(1<<32+7, 400), lease(-7, 400),
		{Kind: 2, Sub: 7, Granted: 400, Period: 6}, {Kind: 2, Sub: 7, Granted: 400, Puts: each(sold, 7)}, {Kind: 2, Sub: 7, Granted: 400, Drops: []int{7}},
		period(0), period(most + 1), period(greatest), {Kind: 3, Period: 6, Sub: 7}, {Kind: 3, Period: 6, Granted: 1}, {Kind: 3, Period: 6, Puts: each(sold, 7)}, {Kind: 3, Period: 6, Drops: []int{7}},
	} {
		for _, b := range append(some(), b) {
			holdRefused(t, b, e)
		}
	}
	// Of each kind without what is wrong in it.
	holdBecomes(t, b, commit(nil, 7), held(2, 9))
	holdBecomes(t, b, lease(7, 400), holding(5, granted(2), entry(7, 400), granted(9)))
	holdBecomes(t, b, period(6), holding(6, entry(2, 0), entry(7, 0), entry(9, 0)))
}

// P13.2: Puts that aren't there, at the beginning, in the midst and at the end.
func TestCommitPuts(t *testing.T) {
	b := held(10, 20)
	for _, c := range []struct {
		puts []int
		want []api.Entry
	}{
		{[]int{1}, []api.Entry{entry(1, 0), granted(10), granted(20)}},
		{[]int{9}, []api.Entry{entry(9, 0), granted(10), granted(20)}},
		{[]int{11}, []api.Entry{granted(10), entry(11, 0), granted(20)}},
		{[]int{19}, []api.Entry{granted(10), entry(19, 0), granted(20)}},
		{[]int{21}, []api.Entry{granted(10), granted(20), entry(21, 0)}},
		{[]int{255}, []api.Entry{granted(10), granted(20), entry(255, 0)}},
		{[]int{1, 15, 30}, []api.Entry{entry(1, 0), granted(10), entry(15, 0), granted(20), entry(30, 0)}},
		{[]int{1, 2, 11, 12, 21, 22}, []api.Entry{entry(1, 0), entry(2, 0), granted(10), entry(11, 0), entry(12, 0), granted(20), entry(21, 0), entry(22, 0)}},
		// As it is, of what is put as it is.
		{[]int{10}, b.Entries},
		{[]int{10, 20}, b.Entries},
	} {
		holdBecomes(t, b, commit(each(sold, c.puts...)), holding(5, c.want...))
	}
	holdBecomes(t, holding(1), commit(each(sold, 7)), holding(1, entry(7, 0)))
	holdBecomes(t, holding(most), commit(each(sold, row(8, 2, 3)...)), holding(most, each(func(sub int) api.Entry { return entry(sub, 0) }, row(8, 2, 3)...)...))
}

// P13.2: a Put of a Sub that is there: its Granted stays, even above the new Quota.
func TestCommitPutsInPlaces(t *testing.T) {
	for n := 1; n <= 8; n++ {
		for k := range n {
			b := held(row(n, 10, 10)...)
			sub := 10 + 10*k
			for _, g := range []uint64{0, 1, 50, 51, quota, quota + 1, most} {
				b.Entries[k].Granted = g
				want := changed(b, func(c *api.Book) { c.Entries[k].Policy = other(sub) })
				holdBecomes(t, b, commit(each(other, sub)), want)
			}
			for at := range 7 {
				p := sold(sub)
				*value(&p, at) = most
				want := changed(b, func(c *api.Book) { c.Entries[k].Policy = p })
				holdBecomes(t, b, commit([]api.Policy{p}), want)
			}
		}
	}
	all := row(8, 10, 10)
	want := held(all...)
	for i, sub := range all {
		want.Entries[i].Policy = other(sub)
	}
	holdBecomes(t, held(all...), commit(each(other, all...)), want)
	none := sold(7)
	none.Quota = 0
	holdBecomes(t, held(7), commit([]api.Policy{none}), holding(5, api.Entry{Policy: none, Granted: 307}))
}

// P13.2
func TestCommitDrops(t *testing.T) {
	for n := 1; n <= 8; n++ {
		subs := row(n, 10, 10)
		for choice := 1; choice < 1<<n; choice++ {
			var drops, stay []int
			for i, sub := range subs {
				if choice>>i&1 == 1 {
					drops = append(drops, sub)
				} else {
					stay = append(stay, sub)
				}
			}
			holdBecomes(t, held(subs...), commit(nil, drops...), held(stay...))
		}
	}
	// The last one.
	holdBecomes(t, held(7), commit(nil, 7), holding(5))
	holdBecomes(t, fullest(), commit(nil, row(8, 248, 1)...), holding(most))
}

// P13.2: a Drop that has no Entry, beside some that have.
func TestCommitDropsOfNone(t *testing.T) {
	for _, subs := range [][]int{nil, {7}, {2, 7, 9}, row(7, 10, 10), row(8, 10, 10)} {
		b := held(subs...)
		for sub := 1; sub <= 255; sub++ {
			there := slices.Contains(subs, sub)
			if ok := holdApply(t, b, commit(nil, sub)); ok != there {
				t.Errorf("Drop of %d in %v: %t", sub, b, ok)
			}
			if there {
				continue
			}
			// There may be no more than eight.
			drops := append(slices.Clone(subs[:min(len(subs), 7)]), sub)
			slices.Sort(drops)
			holdRefused(t, b, commit(nil, drops...))
		}
	}
	holdRefused(t, held(100), commit(each(sold, 101), 99, 100))
	holdRefused(t, held(100), commit(each(sold, 99), 100, 101))
	// What is put doesn't count among those that are there.
	holdRefused(t, holding(5), commit(each(sold, 7), 8))
	holdRefused(t, held(9), commit(each(sold, 7), 8))
}

// P13.2: Puts and Drops in one.
func TestCommitPutsAndDrops(t *testing.T) {
	b := held(10, 20, 30)
	for _, c := range []struct {
		puts  []api.Policy
		drops []int
		want  []api.Entry
	}{
		{each(sold, 1), []int{10}, []api.Entry{entry(1, 0), granted(20), granted(30)}},
		{each(sold, 11), []int{10}, []api.Entry{entry(11, 0), granted(20), granted(30)}},
		{each(sold, 25), []int{10}, []api.Entry{granted(20), entry(25, 0), granted(30)}},
		{each(sold, 40), []int{10}, []api.Entry{granted(20), granted(30), entry(40, 0)}},
		{each(sold, 1), []int{30}, []api.Entry{entry(1, 0), granted(10), granted(20)}},
		{each(sold, 40), []int{20}, []api.Entry{granted(10), granted(30), entry(40, 0)}},
		{each(other, 20), []int{10, 30}, []api.Entry{{Policy: other(20), Granted: 320}}},
		{each(other, 10), []int{20}, []api.Entry{{Policy: other(10), Granted: 310}, granted(30)}},
		{each(other, 5, 30), []int{10, 20}, []api.Entry{{Policy: other(5)}, {Policy: other(30), Granted: 330}}},
		{each(sold, 1, 15, 40), []int{10, 20, 30}, []api.Entry{entry(1, 0), entry(15, 0), entry(40, 0)}},
	} {
		holdBecomes(t, b, commit(c.puts, c.drops...), holding(5, c.want...))
	}
	// A whole book for another.
	holdBecomes(t, fullest(), commit(each(sold, row(8, 2, 2)...), row(8, 248, 1)...), holding(most, each(func(sub int) api.Entry { return entry(sub, 0) }, row(8, 2, 2)...)...))
	// What was dropped and comes later has nothing granted any more.
	dropped, _ := book.Apply(held(7), commit(nil, 7))
	holdBecomes(t, dropped, commit(each(sold, 7)), holding(5, entry(7, 0)))
}

// netOf is a subscriber's policy with another one's Net.
func netOf(sub, from int) api.Policy {
	p := sold(sub)
	p.Net = sold(from).Net
	return p
}

// P13.2: Puts by which two would have the same Net, and such that can be because of what else is in the commit.
func TestCommitByNets(t *testing.T) {
	for n := 1; n <= 7; n++ {
		b := held(row(n, 10, 10)...)
		for k := range n {
			sub := 10 + 10*k
			for _, from := range []int{1, 9, 11, 55, 250} {
				p := netOf(from, sub)
				holdRefused(t, b, commit([]api.Policy{p}))
				// Because of the Drop beside it.
				want, ok := applied(b, commit([]api.Policy{p}, sub))
				if !ok || len(want.Entries) != n {
					t.Fatal(want)
				}
				holdBecomes(t, b, commit([]api.Policy{p}, sub), want)
			}
			for j := range n {
				if j == k {
					continue
				}
				// Of another one that is there, and by turns.
				to := 10 + 10*j
				holdRefused(t, b, commit([]api.Policy{netOf(to, sub)}))
				turned := changed(b, func(c *api.Book) {
					c.Entries[j].Policy, c.Entries[k].Policy = netOf(to, sub), netOf(sub, to)
				})
				e := commit([]api.Policy{netOf(min(sub, to), max(sub, to)), netOf(max(sub, to), min(sub, to))})
				holdBecomes(t, b, e, turned)
				dropped := changed(turned, func(c *api.Book) { c.Entries = slices.Delete(c.Entries, k, k+1) })
				holdBecomes(t, b, commit([]api.Policy{netOf(to, sub)}, sub), dropped)
			}
		}
	}
	// Networks within one another aren't the same.
	wide := sold(8)
	wide.Net = api.Net{Addr: api.Addr{10}, Bits: 8}
	holdBecomes(t, held(7), commit([]api.Policy{wide}), holding(5, granted(7), api.Entry{Policy: wide}))
}

// P13.2: Puts by which there would be more than eight, and such that can be because of the Drops beside them.
func TestCommitByHowMany(t *testing.T) {
	for n := range 9 {
		b := held(row(n, 10, 10)...)
		for m := range 9 {
			puts := each(sold, row(m, 15, 10)...)
			for k := range n + 1 {
				drops := row(k, 10, 10)
				ok := holdApply(t, b, commit(puts, drops...))
				if ok != (m+k > 0 && n+m-k <= 8) {
					t.Errorf("%d Entries, %d Puts, %d Drops: %t", n, m, k, ok)
				}
			}
		}
	}
	full := held(row(8, 10, 10)...)
	holdRefused(t, full, commit(each(sold, 1)))
	holdRefused(t, full, commit(each(sold, 255)))
	holdRefused(t, full, commit(each(sold, 1, 10)))
	holdRefused(t, full, commit(each(sold, 1, 2), 10))
	holdBecomes(t, full, commit(each(sold, 1), 80), holding(5, append([]api.Entry{entry(1, 0)}, full.Entries[:7]...)...))
	holdBecomes(t, full, commit(each(sold, 255), 10), holding(5, append(slices.Clone(full.Entries[1:]), entry(255, 0))...))
}

// P13.2
func TestLeases(t *testing.T) {
	for n := 1; n <= 8; n++ {
		for k := range n {
			b := held(row(n, 10, 10)...)
			sub := 10 + 10*k
			had := uint64(300 + sub)
			for g, ok := range map[uint64]bool{
				0: false, 1: false, had - 1: false, had: true, had + 1: true, 2 * had: true, quota - 1: true, quota: true,
				quota + 1: false, quota * 2: false, most: false, most + 1: false, 1 << 63: false, greatest: false,
			} {
				if ok {
					holdBecomes(t, b, lease(sub, g), changed(b, func(c *api.Book) { c.Entries[k].Granted = g }))
				} else {
					holdRefused(t, b, lease(sub, g))
				}
			}
		}
	}
}

// P13.2: a lease whose Sub has no Entry.
func TestLeasesOfNone(t *testing.T) {
	for _, subs := range [][]int{nil, {7}, {2, 7, 9}, row(8, 10, 10)} {
		for sub := -3; sub <= 260; sub++ {
			if ok := holdApply(t, held(subs...), lease(sub, 1000)); ok != slices.Contains(subs, sub) {
				t.Errorf("lease to %d of %v: %t", sub, subs, ok)
			}
		}
	}
}

// P13.2: Quotas and what was granted, at their edges.
func TestLeasesByQuotas(t *testing.T) {
	edges := []uint64{0, 1, 2, 300, 1499, 1500, most - 1, most}
	for _, q := range edges {
		for _, had := range edges {
			x := entry(7, had)
			x.Policy.Quota = q
			b := holding(5, granted(2), x, granted(9))
			for _, g := range append(edges, most+1, greatest) {
				if ok := holdApply(t, b, lease(7, g)); ok != (g >= 1 && g >= had && g <= q) {
					t.Errorf("lease of %d, behind %d of %d: %t", g, had, q, ok)
				}
			}
		}
	}
}

// P13.2
func TestPeriods(t *testing.T) {
	for _, n := range []uint64{1, 2, 5, 127, 1 << 32, most - 1, most} {
		for _, b := range []api.Book{holding(n), holding(n, granted(7)), holding(n, entry(7, 0), entry(8, most)), holding(n, fullest().Entries...)} {
			for _, m := range []uint64{0, 1, 2, 3, n - 1, n, n + 1, n + 2, n + 256, n + 1<<32, 2 * n, most, most + 1, 1 << 63, n + 1 + 1<<63, greatest - 1, greatest} {
				if m != n+1 || m == most+1 {
					holdRefused(t, b, period(m))
					continue
				}
				want := changed(b, func(c *api.Book) { c.Period = m })
				for i := range want.Entries {
					want.Entries[i].Granted = 0
				}
				holdBecomes(t, b, period(m), want)
			}
		}
	}
}

func pick[T any](from *rand.Rand, l ...T) T { return l[from.Intn(len(l))] }

// anyBook is one that is RIGHT most of the time.
func anyBook(from *rand.Rand) api.Book {
	b := holding(pick(from, 1, 2, 5, most-1, most))
	rare := func() bool { return from.Intn(60) == 0 }
	for sub := 1; sub <= 12; sub++ {
		if from.Intn(3) == 0 {
			b.Entries = append(b.Entries, api.Entry{Policy: anyPolicy(from, sub), Granted: pick(from, 0, 50, 307, quota, most)})
		}
	}
	if n := len(b.Entries); n > 0 && rare() {
		k := from.Intn(n)
		b.Entries[k].Policy.Net = b.Entries[from.Intn(n)].Policy.Net
		b.Entries[k].Granted = pick(from, 0, most, most+1, greatest)
		b.Entries[k].Policy.Sub = pick(from, 0, 1, 5, 256)
	}
	if rare() {
		b.Period = pick(from, 0, most+1, greatest)
	}
	return b
}

// anyPolicy is one of a subscriber: one of its own, or one with another one's Net.
func anyPolicy(from *rand.Rand, sub int) api.Policy {
	switch from.Intn(20) {
	case 0:
		return netOf(sub, 1+from.Intn(12))
	case 1, 2, 3, 4, 5, 6:
		return other(sub)
	}
	return sold(sub)
}

func anyEvent(from *rand.Rand, b api.Book) api.Event {
	switch from.Intn(5) {
	case 0:
		return lease(from.Intn(13), pick(from, 0, 1, 49, 50, 51, 306, 307, 308, quota-1, quota, quota+1, most, most+1))
	case 1:
		return period(b.Period + pick(from, 0, 1, 1, 1, 2, greatest))
	}
	e := api.Event{Kind: 1}
	for sub := range 14 {
		_, there := book.Find(b, sub)
		switch n := from.Intn(12); {
		case n < 2 && sub > 0:
			e.Puts = append(e.Puts, anyPolicy(from, sub))
		case n < 5 && there, n == 5 && from.Intn(20) == 0:
			e.Drops = append(e.Drops, sub)
		}
	}
	return e
}

// P13.1, P13.2, P13.3: whatever books and events come.
func TestAgainstWords(t *testing.T) {
	from := rand.New(rand.NewSource(13))
	books, taken := map[bool]int{}, map[bool]int{}
	last := holding(1)
	for range 40000 {
		b := anyBook(from)
		right := can(b)
		books[right]++
		if book.Right(b) != right {
			t.Errorf("Right(%v) = %t", b, !right)
		}
		if from.Intn(10) == 0 {
			hold(t, b, right)
		}
		if book.Same(b, last) != alike(b, last) {
			t.Errorf("Same(%v, %v) = %t", b, last, book.Same(b, last))
		}
		taken[holdApply(t, b, anyEvent(from, b))]++
		last = b
	}
	if books[true] < 5000 || books[false] < 500 || taken[true] < 5000 || taken[false] < 5000 {
		t.Errorf("%v and %v are too few", books, taken)
	}
}

// P13.2: many events, one behind the other.
func TestManyEvents(t *testing.T) {
	from := rand.New(rand.NewSource(132))
	for range 200 {
		b := holding(1)
		for range 200 {
			e := anyEvent(from, b)
			holdApply(t, b, e)
			b, _ = book.Apply(b, e)
			holdRight(t, b)
		}
	}
}

// P13.3: number by number.
func TestBytesNumberByNumber(t *testing.T) {
	p := api.Policy{
		Sub: 255, Net: api.Net{Addr: api.Addr{1, 2, 3, 0}, Bits: 24},
		Rate: 4, Burst: 128, SlowRate: 0, SlowBurst: 6, Quota: 7, Lease: 1500, Quantum: 16384,
	}
	for _, c := range []struct {
		b    api.Book
		want []byte
	}{
		{holding(1), []byte{1}},
		{holding(127), []byte{127}},
		{holding(128), []byte{0x80, 1}},
		{holding(300), []byte{0xac, 2}},
		{holding(most), []byte{0x80, 0x80, 0x80, 0x80, 0x80, 0x80, 0x40}},
		{holding(2, api.Entry{Policy: p, Granted: 9}), []byte{2, 0xff, 1, 0x80, 0x86, 0x88, 8, 24, 4, 0x80, 1, 0, 6, 7, 0xdc, 0xb, 0x80, 0x80, 1, 9}},
	} {
		holdRight(t, c.b)
		if got, err := book.Bytes(c.b); !bytes.Equal(got, c.want) || err != api.OK {
			t.Errorf("Bytes(%v) = % x, %d, not % x", c.b, got, err, c.want)
		}
		holdRead(t, c.want, c.b)
	}
	for _, b := range wrong() {
		if got, err := book.Bytes(b); len(got) != 0 || err != api.ErrBook {
			t.Errorf("Bytes(%v) = % x, %d", b, got, err)
		}
	}
}

// P13.3: what is read is written again, and is the same.
func TestReadOfBytes(t *testing.T) {
	for _, b := range some() {
		l, _ := book.Bytes(b)
		read, err := book.Read(l)
		if err != api.OK || !book.Same(read, b) {
			t.Errorf("Read(% x) = %v, %d, not %v", l, read, err, b)
		}
		if again, err := book.Bytes(read); !bytes.Equal(again, l) || err != api.OK {
			t.Errorf("Bytes(%v) = % x, %d, not % x", read, again, err, l)
		}
	}
}

// P13.3: no bytes, bytes cut off, and bytes with others ahead and behind.
func TestReadCutOff(t *testing.T) {
	holdReadNone(t, nil)
	holdReadNone(t, []byte{})
	for _, b := range some() {
		l := bytesOf(numsOf(b)...)
		met := 0
		for n := range l {
			if holdReadWords(t, l[:n]) {
				met++
			}
			holdReadWords(t, l[n:])
		}
		// Cut off behind an Entry, they are those of a book with fewer.
		if met != len(b.Entries) {
			t.Errorf("% x: %d books", l, met)
		}
		for c := range 256 {
			holdReadNone(t, append(slices.Clone(l), byte(c)))
			holdReadWords(t, append([]byte{byte(c)}, l...))
		}
	}
}

func with(l []uint64, at int, n uint64) []uint64 {
	out := slices.Clone(l)
	out[at] = n
	return out
}

// P13.3: one number more or less, at each place.
func TestReadByHowManyNumbers(t *testing.T) {
	for _, b := range some() {
		l := numsOf(b)
		for k := range len(l) + 1 {
			for _, n := range []uint64{0, 1, 16, 255, 1600, most, greatest} {
				holdReadNone(t, bytesOf(slices.Insert(slices.Clone(l), k, n)...))
			}
			if k < len(l) {
				holdReadNone(t, bytesOf(slices.Delete(slices.Clone(l), k, k+1)...))
			}
		}
	}
	for n := range 300 {
		if ok := holdReadWords(t, bytes.Repeat([]byte{1}, n)); ok != (n == 1) {
			t.Errorf("%d ones: %t", n, ok)
		}
	}
	// More Entries than may be, up to more numbers than layer 2 reads.
	for n := range 25 {
		if ok := holdReadWords(t, bytesOf(numsOf(held(row(n, 1, 1)...))...)); ok != (n <= 8) {
			t.Errorf("%d Entries: %t", n, ok)
		}
	}
}

// P13.3: another number at each place.
func TestReadOfOtherNumbers(t *testing.T) {
	for _, b := range some() {
		l := numsOf(b)
		met := map[bool]int{}
		for k := range l {
			for _, n := range []uint64{
				0, 1, 2, 16, 17, 32, 33, 255, 256, 1499, 1500, 1<<32 - 1, 1 << 32, 1<<32 + 1, most - 1, most, most + 1, 1<<63 - 1, 1 << 63, 1<<63 + 16, greatest,
				l[k] + 1, l[k] - 1, l[k] + 256, l[k] + 1<<32, l[k] + 1<<63,
			} {
				met[holdReadWords(t, bytesOf(with(l, k, n)...))]++
			}
			for _, n := range []uint64{most + 1, 1 << 63, greatest} {
				holdReadNone(t, bytesOf(with(l, k, n)...))
			}
		}
		if met[true] == 0 || met[false] == 0 {
			t.Errorf("%v: %v", b, met)
		}
	}
}

// P13.3: numbers, as layer 2 doesn't write them.
func TestReadOfOtherSpellings(t *testing.T) {
	for _, b := range some() {
		l := numsOf(b)
		for k, n := range l {
			ahead, own, behind := bytesOf(l[:k]...), spelt(n), bytesOf(l[k+1:]...)
			longer := slices.Clone(own)
			longer[len(longer)-1] |= 0x80
			for _, as := range [][]byte{
				append(slices.Clone(longer), 0), append(slices.Clone(longer), 0x80, 0), slices.Clone(longer), own[:len(own)-1],
				append(bytes.Repeat([]byte{0xff}, 9), 2), append(bytes.Repeat([]byte{0x80}, 9), 2), append(bytes.Repeat([]byte{0x80}, 10), 1), append(bytes.Repeat([]byte{0x80}, 9), 0),
			} {
				holdReadWords(t, slices.Concat(ahead, as, behind))
			}
			holdReadNone(t, slices.Concat(ahead, longer, []byte{0}, behind))
		}
	}
}

// P13.3: whatever numbers and bytes come.
func TestReadAgainstWords(t *testing.T) {
	from := rand.New(rand.NewSource(133))
	met := map[bool]int{}
	for range 40000 {
		l := numsOf(anyBook(from))
		for range from.Intn(3) {
			k := from.Intn(len(l))
			switch from.Intn(12) {
			case 0:
				l = slices.Insert(slices.Delete(l, k, k+1), 0, 1600)
			case 1:
				l = slices.Insert(l, k, pick[uint64](from, 0, 1, 7, 1600))
			default:
				l[k] = pick(from, 0, 1, 2, 3, 16, 255, 256, 1500, most, most+1, greatest)
			}
		}
		b := bytesOf(l...)
		if from.Intn(6) == 0 {
			b[from.Intn(len(b))] ^= 1 << from.Intn(8)
		}
		met[holdReadWords(t, b)]++
	}
	if met[true] < 5000 || met[false] < 5000 {
		t.Errorf("%v are too few", met)
	}
}

// roomy is a book whose list has spare room, with something in it.
func roomy(b api.Book) api.Book {
	b.Entries = append(slices.Clone(b.Entries), granted(251), api.Entry{Granted: 5}, granted(-5))[:len(b.Entries)]
	return b
}

// roomyEvent is an event whose lists have spare room, with something in it.
func roomyEvent(e api.Event) api.Event {
	e.Puts = append(slices.Clone(e.Puts), sold(251), api.Policy{Sub: -5})[:len(e.Puts)]
	e.Drops = append(slices.Clone(e.Drops), 251, -5)[:len(e.Drops)]
	return e
}

// whole is a book with its list's spare room.
func whole(b api.Book) api.Book {
	b.Entries = b.Entries[:cap(b.Entries)]
	return b
}

func wholeEvent(e api.Event) api.Event {
	e.Puts, e.Drops = e.Puts[:cap(e.Puts)], e.Drops[:cap(e.Drops)]
	return e
}

// spoil writes over all that a book's list holds.
func spoil(b api.Book) {
	for i := range whole(b).Entries {
		whole(b).Entries[i] = entry(-9, 9)
	}
}

func spoilEvent(e api.Event) {
	e = wholeEvent(e)
	for i := range e.Puts {
		e.Puts[i] = api.Policy{Sub: -9}
	}
	for i := range e.Drops {
		e.Drops[i] = -9
	}
}

func spoilBytes(b []byte) {
	b = b[:cap(b)]
	for i := range b {
		b[i] = 0xee
	}
}

func copyOfEvent(e api.Event) api.Event {
	e.Puts, e.Drops = slices.Clone(e.Puts), slices.Clone(e.Drops)
	return e
}

// pairs are books with events, such that can be in them and others.
func pairs() ([]api.Book, []api.Event) {
	var books []api.Book
	var out []api.Event
	for _, b := range append(some(), wrong()...) {
		l := append(events(), period(b.Period+1), api.Event{}, commit(nil), commit(each(sold, 9, 7)))
		for _, x := range b.Entries {
			sub := x.Policy.Sub
			l = append(l, lease(sub, max(x.Granted, 1)), commit(nil, sub), commit(each(other, sub)), commit(each(sold, 1), sub), commit(each(sold, 254), sub), commit([]api.Policy{netOf(250, sub)}), commit(nil, sub, 254))
		}
		for _, e := range l {
			books, out = append(books, b), append(out, e)
		}
	}
	return books, out
}

// P13.2: what is handed in isn't changed, and nothing is shared with what comes back, nor kept.
func TestApplySharesNothing(t *testing.T) {
	met := map[api.Errno]int{}
	books, events := pairs()
	for i, b := range books {
		e := events[i]
		want, ok := applied(b, e)
		if !ok {
			want = b
		}
		b, e := roomy(b), roomyEvent(e)
		bWas, eWas := copyOf(whole(b)), copyOfEvent(wholeEvent(e))
		first, err := book.Apply(b, e)
		second, _ := book.Apply(b, e)
		met[err]++
		if !reflect.DeepEqual(whole(b), bWas) || !reflect.DeepEqual(wholeEvent(e), eWas) {
			t.Errorf("Apply(%v, %v) left %v, %v", bWas, eWas, whole(b), wholeEvent(e))
		}
		spoil(first)
		if !reflect.DeepEqual(whole(b), bWas) || !reflect.DeepEqual(wholeEvent(e), eWas) || !alike(second, want) {
			t.Errorf("%v, %v, %v behind a change of another book", whole(b), wholeEvent(e), second)
		}
		spoil(b)
		spoilEvent(e)
		if !alike(second, want) {
			t.Errorf("%v became %v", want, second)
		}
	}
	if met[api.OK] < 50 || met[api.ErrBook] < 50 || len(met) != 2 {
		t.Errorf("%v are too few", met)
	}
}

// P13.1, P13.3: no other call changes a book or keeps it, nor do Bytes share anything.
func TestBooksAreNotChanged(t *testing.T) {
	for _, b := range append(some(), wrong()...) {
		r := roomy(b)
		was := copyOf(whole(r))
		right := book.Right(r)
		found, ok := book.Find(r, 7)
		first, err := book.Bytes(r)
		second, _ := book.Bytes(r)
		same := book.Same(r, b) && book.Same(b, r)
		if !same || !reflect.DeepEqual(whole(r), was) {
			t.Errorf("%v became %v", was, whole(r))
		}
		want := slices.Clone(second)
		spoilBytes(first)
		if !bytes.Equal(second, want) || !reflect.DeepEqual(whole(r), was) {
			t.Errorf("% x and %v behind a change of other bytes", second, whole(r))
		}
		spoil(r)
		if !bytes.Equal(second, want) {
			t.Errorf("% x became % x", want, second)
		}
		if again, e := book.Bytes(b); !bytes.Equal(again, want) || e != err || book.Right(b) != right {
			t.Errorf("Bytes(%v) = % x, %d, and % x, %d before", b, again, e, want, err)
		}
		holdFind(t, b, 7, found, ok)
	}
}

// P13.3: what Read is given stays as it is, and what it answers is its own.
func TestReadSharesNothing(t *testing.T) {
	for _, b := range some() {
		own := bytesOf(numsOf(b)...)
		room := append(slices.Clone(own), 3, 5, 0x80, 0xff)
		want := slices.Clone(room)
		first, _ := book.Read(room[:len(own)])
		second, _ := book.Read(room[:len(own)])
		spoil(first)
		if !bytes.Equal(room, want) || !alike(second, b) {
			t.Errorf("% x and %v behind a change of another book", room, second)
		}
		spoilBytes(room)
		if !alike(second, b) {
			t.Errorf("%v became %v", b, second)
		}
		holdRead(t, own, b)
	}
	for _, b := range [][]byte{{0}, {1, 1}, {5, 0x80}, bytes.Repeat([]byte{1}, 12)} {
		want := slices.Clone(b)
		holdReadNone(t, b)
		if !bytes.Equal(b, want) {
			t.Errorf("% x became % x", want, b)
		}
	}
}
