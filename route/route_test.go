package route_test

import (
	"math"
	"math/rand"
	"net/netip"
	"slices"
	"testing"

	"floodgate/api"
	"floodgate/route"
)

// net is the network of a text, RIGHT or not.
func net(s string) api.Net {
	p := netip.MustParsePrefix(s)
	return api.Net{Addr: p.Addr().As4(), Bits: p.Bits()}
}

func at(s string) api.Addr { return netip.MustParseAddr(s).As4() }

// num is an address's NUMBER by its words.
func num(a api.Addr) int {
	return int(a[0])*(1<<24) + int(a[1])*(1<<16) + int(a[2])*(1<<8) + int(a[3])
}

func addrOf(n int) api.Addr {
	return api.Addr{byte(n / (1 << 24)), byte(n / (1 << 16) % 256), byte(n / 256 % 256), byte(n % 256)}
}

// size is how many addresses a network of so many bits has.
func size(bits int) int { return 1 << (32 - bits) }

// rightOf is RIGHT by its words: behind the first Bits there is nothing left of the number.
func rightOf(n api.Net) bool {
	return n.Bits >= 0 && n.Bits <= 32 && num(n.Addr)%size(n.Bits) == 0
}

// inOf is In of a RIGHT network, by its ends.
func inOf(a api.Addr, n api.Net) bool {
	return num(a) >= num(n.Addr) && num(a) < num(n.Addr)+size(n.Bits)
}

// model is a Table by its words: routes, the newest one last.
type model []api.Route

func (m model) find(n api.Net) int {
	return slices.IndexFunc(m, func(r api.Route) bool { return r.Net == n })
}

func (m *model) set(n api.Net, who int) api.Errno {
	i := m.find(n)
	if !rightOf(n) || who < 0 || i < 0 && len(*m) == 64 {
		return api.ErrRoute
	}
	if i >= 0 {
		(*m)[i].Who = who
	} else {
		*m = append(*m, api.Route{Net: n, Who: who})
	}
	return api.OK
}

func (m *model) delete(n api.Net) bool {
	i := m.find(n)
	if i >= 0 {
		*m = slices.Delete(*m, i, i+1)
	}
	return i >= 0
}

// best is what Find of an address answers: of the most Bits down, the first one that has it.
func (m model) best(a api.Addr) (api.Route, bool) {
	for bits := 32; bits >= 0; bits-- {
		for _, r := range m {
			if r.Net.Bits == bits && inOf(a, r.Net) {
				return r, true
			}
		}
	}
	return api.Route{}, false
}

// list puts routes in order, by numbers in which the Bits lie below the Addr.
func (m model) list() []api.Route {
	out := slices.Clone(m)
	key := func(r api.Route) int { return num(r.Net.Addr)*64 + r.Net.Bits }
	slices.SortFunc(out, func(a, b api.Route) int { return key(a) - key(b) })
	return out
}

// ends are the addresses at both ends of a network and next to them, round the end of all addresses.
func ends(n api.Net) []api.Addr {
	var out []api.Addr
	first, behind := num(n.Addr), num(n.Addr)+size(n.Bits)
	for _, x := range []int{first - 1, first, first + 1, behind - 2, behind - 1, behind} {
		out = append(out, addrOf((x+1<<32)%(1<<32)))
	}
	return out
}

// tableOf is a table with routes that were set in their order.
func tableOf(t *testing.T, l ...api.Route) *route.Table {
	t.Helper()
	r := route.New()
	for i, x := range l {
		holdSet(t, r, x.Net, x.Who, api.OK)
		if r.Len() != i+1 {
			t.Errorf("Len behind the Set of %v = %d, not %d", x, r.Len(), i+1)
		}
	}
	return r
}

// some are routes that lie within one another and beside one another, not in order.
func some() []api.Route {
	return []api.Route{
		{Net: net("192.168.0.0/16"), Who: 3},
		{Net: net("10.1.0.0/16"), Who: 2},
		{Net: net("0.0.0.0/0"), Who: 9},
		{Net: net("10.0.0.0/8"), Who: 1},
		{Net: net("10.1.2.3/32"), Who: 0},
		{Net: net("255.255.255.255/32"), Who: math.MaxInt},
	}
}

// full are as many routes as there may be, of 32 Bits each.
func full() []api.Route {
	var out []api.Route
	for i := range 64 {
		out = append(out, api.Route{Net: api.Net{Addr: api.Addr{10, 0, byte(i), 7}, Bits: 32}, Who: i})
	}
	return out
}

// wrong are networks that aren't RIGHT.
func wrong() []api.Net {
	out := []api.Net{net("10.0.0.1/8"), net("10.128.0.0/8"), net("0.0.0.1/0"), net("128.0.0.0/0"), net("255.255.255.255/31"), net("10.1.2.3/16"), net("10.0.0.0/6")}
	for _, bits := range []int{math.MinInt, -32, -8, -1, 33, 40, 64, 256, 1 << 32, 1<<32 + 8, math.MaxInt} {
		for _, a := range []string{"0.0.0.0", "10.0.0.0", "10.1.2.3", "255.255.255.255"} {
			out = append(out, api.Net{Addr: at(a), Bits: bits})
		}
	}
	return out
}

func holdSet(t *testing.T, r *route.Table, n api.Net, who int, want api.Errno) {
	t.Helper()
	if e := r.Set(n, who); e != want {
		t.Errorf("Set(%v, %d) = %d, not %d", n, who, e, want)
	}
}

func holdDelete(t *testing.T, r *route.Table, n api.Net, want bool) {
	t.Helper()
	if ok := r.Delete(n); ok != want {
		t.Errorf("Delete(%v) = %t", n, ok)
	}
}

func holdFind(t *testing.T, r *route.Table, a api.Addr, n api.Net, who int) {
	t.Helper()
	want := api.Route{Net: n, Who: who}
	if x, ok := r.Find(a); x != want || !ok {
		t.Errorf("Find(%v) = %v, %t, not %v", a, x, ok, want)
	}
}

func holdNone(t *testing.T, r *route.Table, a api.Addr) {
	t.Helper()
	if x, ok := r.Find(a); x != (api.Route{}) || ok {
		t.Errorf("Find(%v) = %v, %t", a, x, ok)
	}
}

// holdAll holds all that a table tells against the routes that it should have: Len, List, and Find at the ends of its networks.
func holdAll(t *testing.T, r *route.Table, want ...api.Route) {
	t.Helper()
	if r.Len() != len(want) {
		t.Errorf("Len = %d, not %d", r.Len(), len(want))
	}
	if l := r.List(); !slices.Equal(l, model(want).list()) {
		t.Errorf("List = %v, not %v", l, model(want).list())
	}
	tried := []api.Addr{{}, {10, 1, 2, 3}, {127, 255, 255, 255}, {128}, {255, 255, 255, 255}}
	for _, x := range want {
		tried = append(tried, ends(x.Net)...)
	}
	for _, a := range tried {
		if b, ok := model(want).best(a); ok {
			holdFind(t, r, a, b.Net, b.Who)
		} else {
			holdNone(t, r, a)
		}
	}
}

// P6.1, P6.2: the chapter's own example.
func TestExample(t *testing.T) {
	l := []api.Route{{Net: net("10.0.0.0/8"), Who: 1}, {Net: net("10.1.0.0/16"), Who: 2}}
	for _, r := range []*route.Table{tableOf(t, l[0], l[1]), tableOf(t, l[1], l[0])} {
		holdFind(t, r, at("10.1.2.3"), net("10.1.0.0/16"), 2)
		holdFind(t, r, at("10.2.2.3"), net("10.0.0.0/8"), 1)
		holdNone(t, r, at("11.1.2.3"))
		holdAll(t, r, l...)
	}
}

// P6.1, P6.2, P6.3
func TestNewHasNone(t *testing.T) {
	r := route.New()
	holdAll(t, r)
	holdDelete(t, r, api.Net{}, false)
	holdDelete(t, r, net("10.0.0.0/8"), false)
	holdAll(t, r)
	holdAll(t, r.Clone())
	// No two tables have anything in common.
	holdSet(t, r, api.Net{}, 1, api.OK)
	holdAll(t, route.New())
}

// P6.1
func TestSetOfAllBits(t *testing.T) {
	for bits := range 33 {
		first := api.Net{Bits: bits}
		last := api.Net{Addr: addrOf(1<<32 - size(bits)), Bits: bits}
		for _, n := range []api.Net{first, last} {
			holdAll(t, tableOf(t, api.Route{Net: n, Who: bits}), api.Route{Net: n, Who: bits})
		}
	}
}

// P6.1
func TestSetOfWho(t *testing.T) {
	for _, who := range []int{0, 1, 8, 255, 256, math.MaxInt32, 1 << 32, math.MaxInt} {
		for _, n := range []api.Net{{}, net("10.0.0.0/8"), net("10.1.2.3/32")} {
			holdAll(t, tableOf(t, api.Route{Net: n, Who: who}), api.Route{Net: n, Who: who})
		}
	}
}

// P6.1
func TestSetRefused(t *testing.T) {
	for _, l := range [][]api.Route{nil, some(), full()} {
		r := tableOf(t, l...)
		for _, n := range wrong() {
			for _, who := range []int{math.MinInt, -1, 0, 1, math.MaxInt} {
				holdSet(t, r, n, who, api.ErrRoute)
			}
		}
		// Nobody's, whether there is a route of that Net or not.
		for _, n := range []api.Net{{}, net("10.0.0.0/8"), net("10.1.2.3/32"), net("10.0.0.7/32"), net("172.16.0.0/12")} {
			for _, who := range []int{math.MinInt, math.MinInt32, -2, -1} {
				holdSet(t, r, n, who, api.ErrRoute)
			}
		}
		holdAll(t, r, l...)
	}
}

// P6.1
func TestSetAgain(t *testing.T) {
	l := some()
	r := tableOf(t, l...)
	for i, x := range l {
		holdSet(t, r, x.Net, x.Who, api.OK)
		holdAll(t, r, l...)
		for _, who := range []int{0, 77, math.MaxInt, 100 + i} {
			l[i].Who = who
			holdSet(t, r, x.Net, who, api.OK)
			holdAll(t, r, l...)
		}
	}
}

// P6.1
func TestSetOfTheMost(t *testing.T) {
	l := full()
	r := tableOf(t, l[:63]...)
	holdAll(t, r, l[:63]...)
	holdSet(t, r, l[63].Net, l[63].Who, api.OK)
	holdAll(t, r, l...)
	// The 65th, of whichever Net that isn't there.
	for _, n := range []api.Net{{}, net("10.0.0.0/8"), net("10.0.0.6/31"), net("10.0.64.7/32"), net("255.255.255.255/32")} {
		holdSet(t, r, n, 1, api.ErrRoute)
		holdSet(t, r, n, 0, api.ErrRoute)
	}
	holdAll(t, r, l...)
	for i := range l {
		l[i].Who += 1000
		holdSet(t, r, l[i].Net, l[i].Who, api.OK)
	}
	holdAll(t, r, l...)
}

// P6.1
func TestSetBehindDelete(t *testing.T) {
	l := full()
	r := tableOf(t, l...)
	holdDelete(t, r, l[20].Net, true)
	l[20] = api.Route{Net: net("10.0.0.0/8"), Who: 5}
	holdSet(t, r, l[20].Net, 5, api.OK)
	holdSet(t, r, net("10.0.20.7/32"), 5, api.ErrRoute)
	holdAll(t, r, l...)
	// What was deleted comes back as whose it is now.
	holdDelete(t, r, l[0].Net, true)
	l[0].Who = 99
	holdSet(t, r, l[0].Net, 99, api.OK)
	holdAll(t, r, l...)
}

// P6.1
func TestDelete(t *testing.T) {
	for _, l := range [][]api.Route{some(), full()} {
		r := tableOf(t, l...)
		for i := 0; len(l) > 0; i++ {
			at := i * 7 % len(l)
			n := l[at].Net
			l = slices.Delete(l, at, at+1)
			holdDelete(t, r, n, true)
			holdAll(t, r, l...)
			holdDelete(t, r, n, false)
			holdAll(t, r, l...)
		}
	}
}

// P6.1
func TestDeleteOfWhatIsNotThere(t *testing.T) {
	for _, l := range [][]api.Route{nil, some(), full()} {
		r := tableOf(t, l...)
		// Nets of one Addr with other Bits, and Nets within or round one that is there, are others.
		for _, s := range []string{"10.0.0.0/7", "10.0.0.0/9", "10.0.0.0/16", "10.0.0.0/32", "10.1.0.0/32", "10.1.2.2/31", "0.0.0.0/1", "0.0.0.0/32", "128.0.0.0/1", "172.16.0.0/12", "10.0.64.7/32"} {
			holdDelete(t, r, net(s), false)
		}
		for _, n := range wrong() {
			holdDelete(t, r, n, false)
		}
		holdAll(t, r, l...)
	}
}

// P6.2
func TestFindInOne(t *testing.T) {
	r := tableOf(t, api.Route{Net: net("10.0.0.0/8"), Who: 4})
	for _, s := range []string{"10.0.0.0", "10.0.0.1", "10.1.2.3", "10.128.0.0", "10.255.255.255"} {
		holdFind(t, r, at(s), net("10.0.0.0/8"), 4)
	}
	for _, s := range []string{"0.0.0.0", "9.255.255.255", "11.0.0.0", "138.0.0.0", "26.0.0.0", "255.255.255.255"} {
		holdNone(t, r, at(s))
	}
}

// P6.2: a route of zeros is found, too.
func TestFindInAll(t *testing.T) {
	r := tableOf(t, api.Route{})
	for _, s := range []string{"0.0.0.0", "0.0.0.1", "10.1.2.3", "127.255.255.255", "128.0.0.0", "255.255.255.255"} {
		holdFind(t, r, at(s), api.Net{}, 0)
	}
	holdDelete(t, r, api.Net{}, true)
	holdNone(t, r, at("10.1.2.3"))
}

// P6.2
func TestFindInSeveral(t *testing.T) {
	r := tableOf(t, some()...)
	for _, c := range []struct {
		a, n string
		who  int
	}{
		{"10.1.2.3", "10.1.2.3/32", 0},
		{"10.1.2.2", "10.1.0.0/16", 2},
		{"10.1.2.4", "10.1.0.0/16", 2},
		{"10.1.0.0", "10.1.0.0/16", 2},
		{"10.1.255.255", "10.1.0.0/16", 2},
		{"10.0.255.255", "10.0.0.0/8", 1},
		{"10.2.0.0", "10.0.0.0/8", 1},
		{"10.0.0.0", "10.0.0.0/8", 1},
		{"10.255.255.255", "10.0.0.0/8", 1},
		{"9.255.255.255", "0.0.0.0/0", 9},
		{"11.0.0.0", "0.0.0.0/0", 9},
		{"0.0.0.0", "0.0.0.0/0", 9},
		{"192.167.255.255", "0.0.0.0/0", 9},
		{"192.168.0.0", "192.168.0.0/16", 3},
		{"192.168.255.255", "192.168.0.0/16", 3},
		{"192.169.0.0", "0.0.0.0/0", 9},
		{"255.255.255.254", "0.0.0.0/0", 9},
		{"255.255.255.255", "255.255.255.255/32", math.MaxInt},
	} {
		// Again and again: whichever way routes are gone through, the answer is one.
		for range 50 {
			holdFind(t, r, at(c.a), net(c.n), c.who)
		}
	}
}

// nested are the networks of all Bits that an address is in, rising.
func nested(a api.Addr) []api.Route {
	var out []api.Route
	for bits := range 33 {
		n := api.Net{Addr: addrOf(num(a) - num(a)%size(bits)), Bits: bits}
		out = append(out, api.Route{Net: n, Who: 100 - bits})
	}
	return out
}

// P6.2
func TestFindInNetsOfAllBits(t *testing.T) {
	from := rand.New(rand.NewSource(6))
	for _, a := range []api.Addr{{}, {10, 1, 2, 3}, {192, 168, 1, 77}, {128}, {127, 255, 255, 255}, {255, 255, 255, 255}} {
		l := nested(a)
		set := slices.Clone(l)
		from.Shuffle(len(set), func(i, j int) { set[i], set[j] = set[j], set[i] })
		r := tableOf(t, set...)
		holdFind(t, r, a, l[32].Net, 68)
		for bits := range 32 {
			// The first bit that is another one tells how many the two begin with.
			b := addrOf(num(a) ^ 1<<(31-bits))
			holdFind(t, r, b, l[bits].Net, 100-bits)
		}
		holdAll(t, r, l...)
		// Without the innermost one, the next one has the address, till none has.
		for bits := 32; bits > 0; bits-- {
			holdDelete(t, r, l[bits].Net, true)
			holdFind(t, r, a, l[bits-1].Net, 101-bits)
		}
		holdDelete(t, r, api.Net{}, true)
		holdNone(t, r, a)
	}
}

// P6.2
func TestFindAtTheEnds(t *testing.T) {
	for bits := 1; bits <= 32; bits++ {
		for _, x := range []int{0, num(at("10.1.2.3")), 1 << 31, num(at("192.168.1.77")), 1<<32 - 1} {
			first := x - x%size(bits)
			n := api.Net{Addr: addrOf(first), Bits: bits}
			r := tableOf(t, api.Route{Net: n, Who: 7})
			holdFind(t, r, addrOf(first), n, 7)
			holdFind(t, r, addrOf(first+size(bits)-1), n, 7)
			if first > 0 {
				holdNone(t, r, addrOf(first-1))
			}
			if behind := first + size(bits); behind < 1<<32 {
				holdNone(t, r, addrOf(behind))
			}
		}
	}
}

// P6.3
func TestListInOrder(t *testing.T) {
	var want []api.Route
	for i, s := range []string{
		"0.0.0.0/0", "0.0.0.0/1", "0.0.0.0/8", "0.0.0.0/32", "0.0.0.1/32", "0.0.1.0/24", "0.0.1.0/32", "0.1.0.0/16",
		"9.255.255.255/32", "10.0.0.0/7", "10.0.0.0/8", "10.0.0.0/16", "10.0.0.0/31", "10.0.0.1/32", "10.1.0.0/16",
		"127.0.0.0/8", "127.255.255.255/32", "128.0.0.0/1", "128.0.0.0/2", "128.0.0.0/32", "128.0.0.1/32",
		"192.168.0.0/16", "192.168.1.0/24", "200.0.0.0/5", "255.0.0.0/8", "255.255.255.254/31", "255.255.255.255/32",
	} {
		// Who falls, rises and comes again: the order isn't by it.
		want = append(want, api.Route{Net: net(s), Who: (40 - i) % 7})
	}
	from := rand.New(rand.NewSource(63))
	set := slices.Clone(want)
	slices.Reverse(set)
	for range 50 {
		if l := tableOf(t, set...).List(); !slices.Equal(l, want) {
			t.Fatalf("List = %v, not %v", l, want)
		}
		from.Shuffle(len(set), func(i, j int) { set[i], set[j] = set[j], set[i] })
	}
}

// P6.3
func TestListOfNone(t *testing.T) {
	r := tableOf(t, some()...)
	for _, x := range some() {
		holdDelete(t, r, x.Net, true)
	}
	for _, r := range []*route.Table{route.New(), r, r.Clone()} {
		if l := r.List(); len(l) != 0 {
			t.Errorf("List = %v", l)
		}
	}
}

// spoil writes over a list, spare room included.
func spoil(l []api.Route) {
	l = l[:cap(l)]
	for i := range l {
		l[i] = api.Route{Net: net("1.2.3.4/32"), Who: -5}
	}
}

// P6.3
func TestListIsNew(t *testing.T) {
	for _, l := range [][]api.Route{nil, some()[:1], some(), full()} {
		r := tableOf(t, l...)
		first, second := r.List(), r.List()
		spoil(first)
		if !slices.Equal(second, model(l).list()) {
			t.Errorf("List = %v behind a change of another one", second)
		}
		holdAll(t, r, l...)
		spoil(second)
		holdAll(t, r, l...)
	}
}

// P6.3: what is done to a Table isn't seen in a list that was handed out.
func TestListStays(t *testing.T) {
	l := some()
	r := tableOf(t, l...)
	list := r.List()
	for _, x := range l[:3] {
		holdSet(t, r, x.Net, 50, api.OK)
	}
	holdDelete(t, r, l[3].Net, true)
	holdSet(t, r, net("1.0.0.0/8"), 50, api.OK)
	if !slices.Equal(list, model(l).list()) {
		t.Errorf("List = %v behind changes of the Table", list)
	}
}

// P6.1
func TestClone(t *testing.T) {
	for _, l := range [][]api.Route{nil, some()[:1], some(), full()} {
		r := tableOf(t, l...)
		c := r.Clone()
		holdAll(t, c, l...)
		holdAll(t, r, l...)
		for _, x := range []*route.Table{r.Clone(), c.Clone()} {
			emptied(t, x, l)
			holdAll(t, r, l...)
			holdAll(t, c, l...)
		}
		// The other way round.
		emptied(t, r, l)
		holdAll(t, c, l...)
	}
}

// emptied changes all routes of a table, takes them out, and sets another one.
func emptied(t *testing.T, r *route.Table, l []api.Route) {
	t.Helper()
	for _, x := range l {
		holdSet(t, r, x.Net, 12345, api.OK)
	}
	for _, x := range l {
		holdDelete(t, r, x.Net, true)
	}
	holdSet(t, r, net("172.16.0.0/12"), 6, api.OK)
	holdAll(t, r, api.Route{Net: net("172.16.0.0/12"), Who: 6})
}

// P6.1: a Clone has as much room as a table of its own.
func TestCloneOfTheMost(t *testing.T) {
	l := full()
	r := tableOf(t, l[:63]...)
	c := r.Clone()
	holdSet(t, r, l[63].Net, l[63].Who, api.OK)
	holdSet(t, c, net("0.0.0.0/0"), 3, api.OK)
	holdSet(t, c, l[63].Net, l[63].Who, api.ErrRoute)
	holdAll(t, r, l...)
	holdAll(t, c, append(l[:63:63], api.Route{Who: 3})...)
	holdSet(t, r.Clone(), net("0.0.0.0/0"), 3, api.ErrRoute)
}

// P6.1, P6.2, P6.3: what only tells changes neither the table nor what it is handed.
func TestTellingChangesNothing(t *testing.T) {
	l := some()
	r := tableOf(t, l...)
	a, n := at("10.1.2.3"), net("10.1.0.0/16")
	for range 20 {
		r.Find(a)
		r.Find(at("200.1.2.3"))
		r.List()
		r.Len()
		r.Clone()
	}
	holdAll(t, r, l...)
	holdSet(t, r, n, 2, api.OK)
	holdAll(t, r, l...)
	holdDelete(t, r, n, true)
	if a != (api.Addr{10, 1, 2, 3}) || n != (api.Net{Addr: api.Addr{10, 1}, Bits: 16}) {
		t.Errorf("%v and %v were changed", a, n)
	}
	// What was handed in isn't kept: written over, it is another one.
	holdSet(t, r, n, 2, api.OK)
	n.Addr[1] = 7
	holdAll(t, r, l...)
}

// anyNet is a network, mostly RIGHT, of not so many that none would come again.
func anyNet(from *rand.Rand) api.Net {
	bits := from.Intn(35) - 1
	a := api.Addr{byte(from.Intn(2) * 138), byte(from.Intn(2)), 0, byte(from.Intn(3) * 127)}
	if bits >= 0 && bits <= 32 && from.Intn(8) > 0 {
		a = addrOf(num(a) - num(a)%size(bits))
	}
	return api.Net{Addr: a, Bits: bits}
}

// P6.1, P6.2, P6.3: whatever comes behind one another.
func TestAgainstModel(t *testing.T) {
	for seed := range 20 {
		from := rand.New(rand.NewSource(int64(seed)))
		r, m := route.New(), model{}
		most := 0
		for range 1000 {
			n := anyNet(from)
			if from.Intn(5) > 0 {
				who := from.Intn(20) - 1
				holdSet(t, r, n, who, m.set(n, who))
			} else {
				holdDelete(t, r, n, m.delete(n))
			}
			if from.Intn(50) == 0 {
				r = r.Clone()
			}
			if from.Intn(10) == 0 {
				holdAll(t, r, m...)
			}
			most = max(most, len(m))
		}
		holdAll(t, r, m...)
		if most < 64 {
			t.Errorf("seed %d: never more than %d routes", seed, most)
		}
	}
}
