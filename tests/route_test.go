package tests

import (
	"fmt"
	"math"
	"slices"
	"sort"
	"strings"
	"testing"

	"loop.example/g00316/impl"
)

const mostAddr = 4294967295

// wrongAddrs are no addresses; some would pass if only their low bits were
// looked at, and some have last 32 bits that are all 0.
var wrongAddrs = []int64{-1, -2, -mostAddr, mostAddr + 1, mostAddr + 2, 1<<32 | 5, 1<<32 | 1<<31, 1 << 33, -1 << 32, 1 << 40, math.MinInt64, math.MinInt64 + 1, math.MaxInt64 - 1, math.MaxInt64}

var wrongBits = []int64{-1, -2, -31, -32, -33, 33, 34, 63, 64, 65, 96, 1 << 32, 1<<32 + 8, -1 << 32, math.MinInt64, math.MinInt64 + 8, math.MinInt64 + 32, math.MaxInt64}

var wrongHops = []int64{-1, -2, -99, -100, 100, 101, 199, 1 << 32, 1<<32 + 5, -1 << 32, math.MinInt64, math.MinInt64 + 1, math.MaxInt64 - 1, math.MaxInt64}

// netOf is the net with so many bits in which addr lies.
func netOf(addr, bits int64) int64 {
	for i := bits; i < 32; i++ {
		addr &^= 1 << (31 - i)
	}
	return addr
}

// rightRoutes have each count of bits and each edge of Net and of Hop.
func rightRoutes() []impl.Route {
	var list []impl.Route
	for bits := int64(0); bits <= 32; bits++ {
		for _, addr := range []int64{0, mostAddr, 0xaaaaaaaa, 0x55555555, 1 << 31, 1} {
			for _, hop := range []int64{0, 1, 50, 98, 99} {
				list = append(list, impl.Route{Net: netOf(addr, bits), Bits: bits, Hop: hop})
			}
		}
	}
	return list
}

// wrongRoutes are each wrong in one thing, and one in all.
func wrongRoutes() []impl.Route {
	var list []impl.Route
	for _, n := range wrongAddrs {
		for _, bits := range []int64{0, 1, 8, 31, 32} {
			list = append(list, impl.Route{Net: n, Bits: bits, Hop: 1})
		}
	}
	for _, n := range wrongBits {
		for _, net := range []int64{0, 1, 1 << 31, mostAddr} {
			list = append(list, impl.Route{Net: net, Bits: n, Hop: 1})
		}
	}
	for _, n := range wrongHops {
		for _, bits := range []int64{0, 8, 32} {
			list = append(list, impl.Route{Net: netOf(mostAddr, bits), Bits: bits, Hop: n})
		}
	}
	// A bit behind Bits: the first there, the last, and all of them.
	for bits := int64(0); bits <= 31; bits++ {
		for _, behind := range []int64{1 << (31 - bits), 1, 1<<(32-bits) - 1} {
			list = append(list, impl.Route{Net: behind, Bits: bits, Hop: 1}, impl.Route{Net: netOf(mostAddr, bits) | behind, Bits: bits, Hop: 1})
		}
	}
	return append(list, impl.Route{Net: math.MinInt64, Bits: math.MinInt64, Hop: math.MinInt64}, impl.Route{Net: math.MaxInt64, Bits: math.MaxInt64, Hop: math.MaxInt64})
}

// bitText is of numbers from 0 to 4294967295 only.
func bitText(n int64) string { return fmt.Sprintf("%032b", n) }

func within(n, least, greatest int64) bool { return least <= n && n <= greatest }

func rightRouteByText(r impl.Route) bool {
	return within(r.Net, 0, mostAddr) && within(r.Bits, 0, 32) && within(r.Hop, 0, 99) &&
		strings.Trim(bitText(r.Net)[r.Bits:], "0") == ""
}

func fitsByText(r impl.Route, addr int64) bool {
	return rightRouteByText(r) && within(addr, 0, mostAddr) &&
		strings.HasPrefix(bitText(addr), bitText(r.Net)[:r.Bits])
}

func routeAhead(a, b impl.Route) bool {
	return a.Net < b.Net || a.Net == b.Net && a.Bits < b.Bits
}

func rightRoutesByText(list []impl.Route) bool {
	for i, r := range list {
		if !rightRouteByText(r) || i > 0 && !routeAhead(list[i-1], r) {
			return false
		}
	}
	return len(list) <= 64
}

// lastOf is the last address of a right route.
func lastOf(r impl.Route) int64 { return r.Net + 1<<(32-r.Bits) - 1 }

// hopBySearch goes through the whole list and is of right ones only.
func hopBySearch(list []impl.Route, addr int64) int64 {
	longest := impl.Route{Bits: -1, Hop: -1}
	for _, r := range list {
		if within(addr, r.Net, lastOf(r)) && r.Bits > longest.Bits {
			longest = r
		}
	}
	return longest.Hop
}

// edgesOf are the addresses at and beside both ends of each net, and the ends
// of all addresses.
func edgesOf(list []impl.Route) []int64 {
	addrs := []int64{0, 1, 1<<31 - 1, 1 << 31, mostAddr - 1, mostAddr}
	for _, r := range list {
		last := lastOf(r)
		for _, addr := range []int64{r.Net - 1, r.Net, r.Net + 1, (r.Net + last) / 2, last - 1, last, last + 1} {
			addrs = append(addrs, min(max(addr, 0), mostAddr))
		}
	}
	return addrs
}

// inRouteOrder is a new list of right routes, the last of those alike in it.
func inRouteOrder(routes ...impl.Route) []impl.Route {
	last := map[[2]int64]impl.Route{}
	for _, r := range routes {
		last[[2]int64{r.Net, r.Bits}] = r
	}
	var list []impl.Route
	for _, r := range last {
		list = append(list, r)
	}
	sort.Slice(list, func(i, j int) bool { return routeAhead(list[i], list[j]) })
	return list
}

// fullRoutes are MaxRoutes of them, some inside others.
func fullRoutes() []impl.Route {
	list := []impl.Route{{Hop: 99}}
	for i := int64(1); i < impl.MaxRoutes; i++ {
		list = append(list, impl.Route{Net: netOf(i/3<<27|i<<9, 5+i%3*9), Bits: 5 + i%3*9, Hop: i})
	}
	return inRouteOrder(list...)
}

// singles are n single addresses, from the given one on.
func singles(from, n int64) []impl.Route {
	var list []impl.Route
	for i := range n {
		list = append(list, impl.Route{Net: from + i, Bits: 32, Hop: i % 100})
	}
	return list
}

// netsAround are nets with each count of bits around one address.
func netsAround(addr int64) []impl.Route {
	var list []impl.Route
	for bits := int64(0); bits <= 32; bits++ {
		list = append(list, impl.Route{Net: netOf(addr, bits), Bits: bits, Hop: bits + 1})
	}
	return inRouteOrder(list...)
}

func rightLists() [][]impl.Route {
	lists := [][]impl.Route{
		nil,
		{},
		// Net goes ahead of Bits.
		{{Bits: 32}, {Net: 1 << 31, Bits: 1}},
		{{Bits: 1}, {Net: 1 << 31, Bits: 1}},
		{{Bits: 0}, {Bits: 32, Hop: 1}, {Net: 1 << 24, Bits: 8}, {Net: 1 << 24, Bits: 9}, {Net: mostAddr, Bits: 32}},
		// Nothing but two that lie next to each other, or far from each other.
		{{Net: 6, Bits: 32, Hop: 1}, {Net: 7, Bits: 32, Hop: 2}},
		{{Net: 0, Bits: 32, Hop: 1}, {Net: mostAddr, Bits: 32, Hop: 2}},
		// A longer one between two shorter ones, with holes around it.
		{{Net: 1 << 30, Bits: 3, Hop: 1}, {Net: 1<<30 | 1<<20, Bits: 12, Hop: 2}, {Net: 3 << 30, Bits: 2, Hop: 3}},
		// One Hop for all, so that only where it fits tells.
		{{Net: 1 << 31, Bits: 2}, {Net: 1 << 31, Bits: 3}, {Net: 1 << 31, Bits: 32}},
		netsAround(0), netsAround(mostAddr), netsAround(0xaaaaaaaa), netsAround(0x55555555), netsAround(1 << 31), netsAround(1),
		singles(0, impl.MaxRoutes-1), singles(0, impl.MaxRoutes), singles(mostAddr-impl.MaxRoutes+1, impl.MaxRoutes), singles(1<<31-20, 40),
		fullRoutes(), fullRoutes()[1:],
	}
	for _, r := range rightRoutes() {
		lists = append(lists, []impl.Route{r})
	}
	return lists
}

func wrongLists() [][]impl.Route {
	lists := [][]impl.Route{
		{{Bits: 1}, {Bits: 0}},
		{{Net: 1 << 31, Bits: 1}, {Net: 1 << 30, Bits: 2}},
		{{Net: 1 << 31, Bits: 1}, {Bits: 32}},
		{{Bits: 0}, {Bits: 0}},
		{{Bits: 8, Hop: 1}, {Bits: 8, Hop: 2}},
		{{Net: mostAddr, Bits: 32, Hop: 2}, {Net: mostAddr, Bits: 32, Hop: 1}},
		{{Bits: 0}, {Net: 5, Bits: 32}, {Net: 5, Bits: 32}, {Net: 6, Bits: 32}},
		{{Bits: 0}, {Net: 6, Bits: 32}, {Net: 5, Bits: 32}},
		singles(0, impl.MaxRoutes+1), singles(0, impl.MaxRoutes+2), singles(0, 128), singles(1<<20, 1000),
		make([]impl.Route, impl.MaxRoutes+1),
	}
	for _, list := range [][]impl.Route{fullRoutes(), netsAround(0xaaaaaaaa), singles(9, 3)} {
		for i := range list[1:] {
			swapped := slices.Clone(list)
			swapped[i], swapped[i+1] = swapped[i+1], swapped[i]
			twice := slices.Clone(list)
			twice[i+1] = twice[i]
			lists = append(lists, swapped, twice)
		}
		turned := slices.Clone(list)
		slices.Reverse(turned)
		lists = append(lists, turned)
	}
	for _, r := range wrongRoutes() {
		lists = append(lists,
			[]impl.Route{r},
			[]impl.Route{{}, r},
			[]impl.Route{r, {Net: mostAddr, Bits: 32}},
			[]impl.Route{{}, r, {Net: mostAddr, Bits: 32}})
	}
	return lists
}

func TestMaxRoutes(t *testing.T) {
	if impl.MaxRoutes != 64 {
		t.Fatal("MaxRoutes is", impl.MaxRoutes)
	}
	if len(fullRoutes()) != impl.MaxRoutes {
		t.Fatal("fullRoutes are", len(fullRoutes()))
	}
}

func TestRoutesOk(t *testing.T) {
	for _, list := range rightLists() {
		if !impl.RoutesOk(list) || !rightRoutesByText(list) {
			t.Errorf("RoutesOk(%v) is false", list)
		}
	}
	for _, list := range wrongLists() {
		if impl.RoutesOk(list) || rightRoutesByText(list) {
			t.Errorf("RoutesOk(%v) is true", list)
		}
	}
}

// Each two right routes, in both orders, are held against the plain words.
func TestRoutesOkOfPairs(t *testing.T) {
	routes := rightRoutes()
	for _, a := range routes {
		for _, b := range routes {
			pair := []impl.Route{a, b}
			if got, want := impl.RoutesOk(pair), rightRoutesByText(pair); got != want {
				t.Fatalf("RoutesOk(%v) = %t", pair, got)
			}
		}
	}
}

func TestFitsByHand(t *testing.T) {
	for _, c := range []struct {
		r    impl.Route
		addr int64
		want bool
	}{
		{impl.Route{}, 0, true},
		{impl.Route{}, 1 << 31, true},
		{impl.Route{Hop: 99}, mostAddr, true},
		{impl.Route{Bits: 1}, 1<<31 - 1, true},
		{impl.Route{Bits: 1}, 1 << 31, false},
		{impl.Route{Net: 1 << 31, Bits: 1}, 1 << 31, true},
		{impl.Route{Net: 1 << 31, Bits: 1}, mostAddr, true},
		{impl.Route{Net: 1 << 31, Bits: 1}, 1<<31 - 1, false},
		{impl.Route{Net: 0x0a000000, Bits: 8}, 0x0a000000, true},
		{impl.Route{Net: 0x0a000000, Bits: 8}, 0x0affffff, true},
		{impl.Route{Net: 0x0a000000, Bits: 8}, 0x0b000000, false},
		{impl.Route{Net: 0x0a000000, Bits: 8}, 0x09ffffff, false},
		{impl.Route{Net: 0x0a000000, Bits: 8}, 0x8a000000, false},
		{impl.Route{Bits: 32}, 0, true},
		{impl.Route{Bits: 32}, 1, false},
		{impl.Route{Net: 6, Bits: 31}, 7, true},
		{impl.Route{Net: 6, Bits: 31}, 5, false},
		{impl.Route{Net: 6, Bits: 32}, 7, false},
		{impl.Route{Net: mostAddr, Bits: 32}, mostAddr, true},
		{impl.Route{Net: mostAddr, Bits: 32}, mostAddr - 1, false},
		{impl.Route{Net: mostAddr - 1, Bits: 31}, mostAddr, true},
		{impl.Route{Net: mostAddr, Bits: 31}, mostAddr, false},
		{impl.Route{Net: 1}, 1, false},
		{impl.Route{Hop: 100}, 0, false},
		{impl.Route{Hop: -1}, 0, false},
		{impl.Route{Bits: 33}, 0, false},
		{impl.Route{Bits: -1}, 0, false},
		{impl.Route{}, -1, false},
		{impl.Route{}, mostAddr + 1, false},
	} {
		if got := impl.Fits(c.r, c.addr); got != c.want {
			t.Errorf("Fits(%v, %d) = %t", c.r, c.addr, got)
		}
	}
}

func TestFitsByText(t *testing.T) {
	routes := rightRoutes()
	addrs := append(edgesOf(routes), wrongAddrs...)
	slices.Sort(addrs)
	addrs = slices.Compact(addrs)
	for _, r := range routes {
		for _, addr := range addrs {
			if got, want := impl.Fits(r, addr), fitsByText(r, addr); got != want {
				t.Fatalf("Fits(%v, %d) = %t", r, addr, got)
			}
		}
	}
	for _, r := range wrongRoutes() {
		for _, addr := range append([]int64{r.Net, r.Net & mostAddr, 0, 1, 1 << 31, mostAddr}, wrongAddrs...) {
			if impl.Fits(r, addr) {
				t.Fatalf("Fits(%v, %d) is true", r, addr)
			}
		}
	}
}

// putIs and takenIs ask for the whole answer.
func putIs(t *testing.T, list []impl.Route, r impl.Route, want []impl.Route, wantDone bool) {
	t.Helper()
	if got, done := impl.Put(list, r); done != wantDone || !slices.Equal(got, want) {
		t.Fatalf("Put(%v, %v) = %v, %t, not %v, %t", list, r, got, done, want, wantDone)
	}
}

func takenIs(t *testing.T, list []impl.Route, net, bits int64, want []impl.Route, wantDone bool) {
	t.Helper()
	if got, done := impl.Take(list, net, bits); done != wantDone || !slices.Equal(got, want) {
		t.Fatalf("Take(%v, %d, %d) = %v, %t, not %v, %t", list, net, bits, got, done, want, wantDone)
	}
}

func TestPutByHand(t *testing.T) {
	all := impl.Route{Hop: 1}
	half := impl.Route{Net: 1 << 31, Bits: 1, Hop: 2}
	quarter := impl.Route{Net: 1 << 31, Bits: 2, Hop: 3}
	last := impl.Route{Net: mostAddr, Bits: 32, Hop: 99}
	putIs(t, nil, half, []impl.Route{half}, true)
	putIs(t, []impl.Route{half}, all, []impl.Route{all, half}, true)
	putIs(t, []impl.Route{all, half}, last, []impl.Route{all, half, last}, true)
	putIs(t, []impl.Route{all, half, last}, quarter, []impl.Route{all, half, quarter, last}, true)
	putIs(t, []impl.Route{quarter}, half, []impl.Route{half, quarter}, true)
	// Anew: the same, and with another Hop, in the place of the one there.
	putIs(t, []impl.Route{all, half, last}, half, []impl.Route{all, half, last}, true)
	anew := impl.Route{Net: 1 << 31, Bits: 1, Hop: 0}
	putIs(t, []impl.Route{all, half, quarter, last}, anew, []impl.Route{all, anew, quarter, last}, true)
	// What is not right stays out.
	putIs(t, []impl.Route{all}, impl.Route{Net: 1, Bits: 31}, []impl.Route{all}, false)
	putIs(t, []impl.Route{all}, impl.Route{Hop: 100}, []impl.Route{all}, false)
	putIs(t, nil, impl.Route{Bits: 33}, nil, false)
	// Nothing where the list is not right, be the route right or not.
	putIs(t, []impl.Route{half, all}, last, nil, false)
	putIs(t, []impl.Route{half, all}, impl.Route{Bits: 33}, nil, false)
}

func TestPutIntoRightLists(t *testing.T) {
	routes := rightRoutes()
	for _, list := range rightLists() {
		for _, r := range routes {
			want := inRouteOrder(append(slices.Clone(list), r)...)
			if len(want) > impl.MaxRoutes {
				putIs(t, list, r, list, false)
			} else {
				putIs(t, list, r, want, true)
			}
		}
	}
}

func TestPutOfWrongRoutes(t *testing.T) {
	for _, r := range wrongRoutes() {
		for _, list := range [][]impl.Route{nil, {{}}, netsAround(0), netsAround(mostAddr), singles(0, impl.MaxRoutes), fullRoutes()} {
			putIs(t, list, r, list, false)
		}
	}
}

// A list that is not right goes ahead of all else that is wrong.
func TestRoutesOfWrongLists(t *testing.T) {
	for _, list := range wrongLists() {
		for _, r := range []impl.Route{{}, {Net: mostAddr, Bits: 32, Hop: 99}, {Net: 1, Bits: 31}, {Bits: 33}, {Hop: -1}, list[0]} {
			putIs(t, list, r, nil, false)
			takenIs(t, list, r.Net, r.Bits, nil, false)
		}
		for _, addr := range []int64{0, 5, 1 << 31, mostAddr, -1, mostAddr + 1, list[0].Net} {
			if got := impl.HopOf(list, addr); got != -1 {
				t.Fatalf("HopOf(%v, %d) = %d", list, addr, got)
			}
		}
	}
}

// In a full list there is no room for one more, but each that is there can be
// put anew; and with one taken there is room for one again.
func TestPutWhereThereIsNoRoom(t *testing.T) {
	for _, list := range [][]impl.Route{fullRoutes(), singles(7, impl.MaxRoutes), singles(mostAddr-impl.MaxRoutes+1, impl.MaxRoutes)} {
		more := []impl.Route{{Net: 5, Bits: 32}, {Net: 1 << 31, Bits: 1, Hop: 99}, {Net: 0xc0ffee00, Bits: 24, Hop: 3}, {Bits: 1}}
		for _, r := range more {
			putIs(t, list, r, list, false)
		}
		for i, r := range list {
			r.Hop = 99 - r.Hop
			want := slices.Clone(list)
			want[i] = r
			putIs(t, list, r, want, true)
			less, _ := impl.Take(list, r.Net, r.Bits)
			putIs(t, less, r, want, true)
			putIs(t, less, more[0], inRouteOrder(append(slices.Clone(less), more[0])...), true)
		}
	}
}

// One by one, in several orders, the last list is always the one in order.
func TestPutInAnyOrder(t *testing.T) {
	for _, want := range [][]impl.Route{fullRoutes(), netsAround(0xaaaaaaaa), singles(1<<31-20, 40)} {
		n := len(want)
		for _, step := range []int{1, n - 1, 7, 13, 17, 31} {
			if commonDivisor(step, n) != 1 {
				continue
			}
			var list []impl.Route
			for i := range n {
				var done bool
				if list, done = impl.Put(list, want[i*step%n]); !done || !impl.RoutesOk(list) || len(list) != i+1 {
					t.Fatalf("step %d, %d: %v, %t", step, i, list, done)
				}
			}
			if !slices.Equal(list, want) {
				t.Fatalf("step %d: %v, not %v", step, list, want)
			}
		}
	}
}

func commonDivisor(a, b int) int {
	for b != 0 {
		a, b = b, a%b
	}
	return a
}

func TestTakeByHand(t *testing.T) {
	list := []impl.Route{{Hop: 1}, {Net: 1 << 31, Bits: 1, Hop: 2}, {Net: 1 << 31, Bits: 2, Hop: 3}, {Net: mostAddr, Bits: 32, Hop: 4}}
	takenIs(t, list, 0, 0, list[1:], true)
	takenIs(t, list, 1<<31, 1, []impl.Route{list[0], list[2], list[3]}, true)
	takenIs(t, list, 1<<31, 2, []impl.Route{list[0], list[1], list[3]}, true)
	takenIs(t, list, mostAddr, 32, list[:3], true)
	takenIs(t, list[:1], 0, 0, nil, true)
	// One with its Net and other Bits, or the other way round, is another one.
	takenIs(t, list, 1<<31, 3, list, false)
	takenIs(t, list, 1<<31, 0, list, false)
	takenIs(t, list, 0, 1, list, false)
	takenIs(t, list, 1<<30, 2, list, false)
	takenIs(t, list, mostAddr-1, 32, list, false)
	takenIs(t, nil, 0, 0, nil, false)
	takenIs(t, []impl.Route{list[1], list[0]}, 0, 0, nil, false)
}

func TestTakeFromRightLists(t *testing.T) {
	routes := rightRoutes()
	for _, list := range rightLists() {
		for i, r := range list {
			less := slices.Delete(slices.Clone(list), i, i+1)
			takenIs(t, list, r.Net, r.Bits, less, true)
			takenIs(t, less, r.Net, r.Bits, less, false)
			putIs(t, less, r, list, true)
		}
		for _, r := range routes {
			there := func(other impl.Route) bool { return other.Net == r.Net && other.Bits == r.Bits }
			if !slices.ContainsFunc(list, there) {
				takenIs(t, list, r.Net, r.Bits, list, false)
			}
		}
	}
}

func TestTakeOfWrongNumbers(t *testing.T) {
	for _, list := range [][]impl.Route{nil, {{}}, netsAround(0), netsAround(mostAddr), fullRoutes()} {
		for _, r := range wrongRoutes() {
			if !within(r.Hop, 0, 99) {
				continue
			}
			takenIs(t, list, r.Net, r.Bits, list, false)
		}
		for _, net := range wrongAddrs {
			for _, bits := range append([]int64{0, 8, 32}, wrongBits...) {
				takenIs(t, list, net, bits, list, false)
			}
		}
	}
}

func TestHopOfByHand(t *testing.T) {
	list := []impl.Route{
		{Hop: 1},
		{Bits: 32, Hop: 2},
		{Net: 0x0a000000, Bits: 8, Hop: 3},
		{Net: 0x0a010000, Bits: 16, Hop: 0},
		{Net: 0x0a010200, Bits: 24, Hop: 99},
		{Net: mostAddr, Bits: 32, Hop: 4},
	}
	for _, c := range [][2]int64{
		{0, 2}, {1, 1}, {0x09ffffff, 1}, {0x0a000000, 3}, {0x0a00ffff, 3}, {0x0a010000, 0}, {0x0a0101ff, 0},
		{0x0a010200, 99}, {0x0a0102ff, 99}, {0x0a010300, 0}, {0x0a01ffff, 0}, {0x0a020000, 3}, {0x0affffff, 3},
		{0x0b000000, 1}, {mostAddr - 1, 1}, {mostAddr, 4}, {-1, -1}, {mostAddr + 1, -1},
	} {
		if got := impl.HopOf(list, c[0]); got != c[1] {
			t.Errorf("HopOf %#x is %d, not %d", c[0], got, c[1])
		}
	}
	// Without the one for all, there is nothing between the nets.
	for _, c := range [][2]int64{{0, 2}, {1, -1}, {0x09ffffff, -1}, {0x0a000000, 3}, {0x0b000000, -1}, {mostAddr - 1, -1}, {mostAddr, 4}} {
		if got := impl.HopOf(list[1:], c[0]); got != c[1] {
			t.Errorf("without the first: HopOf %#x is %d, not %d", c[0], got, c[1])
		}
	}
	for _, addr := range []int64{0, 1, mostAddr} {
		if got := impl.HopOf(nil, addr); got != -1 {
			t.Errorf("HopOf(nil, %d) = %d", addr, got)
		}
	}
}

func heldAgainstSearch(t *testing.T, list []impl.Route, addrs ...int64) {
	t.Helper()
	for _, addr := range addrs {
		if got, want := impl.HopOf(list, addr), hopBySearch(list, addr); got != want {
			t.Fatalf("HopOf(%v, %d) = %d, not %d", list, addr, got, want)
		}
	}
}

func TestHopOfRightLists(t *testing.T) {
	for _, list := range rightLists() {
		heldAgainstSearch(t, list, edgesOf(list)...)
		heldAgainstSearch(t, list, 0xaaaaaaaa, 0x55555555, 0x0a010203)
		for _, addr := range wrongAddrs {
			if got := impl.HopOf(list, addr); got != -1 {
				t.Fatalf("HopOf(%v, %d) = %d", list, addr, got)
			}
		}
	}
}

// Each set of the seven nets with at most two bits.
func TestHopOfAllSmallLists(t *testing.T) {
	seven := []impl.Route{{Hop: 1}, {Bits: 1, Hop: 2}, {Bits: 2, Hop: 3}, {Net: 1 << 30, Bits: 2, Hop: 4}, {Net: 1 << 31, Bits: 1, Hop: 5}, {Net: 1 << 31, Bits: 2, Hop: 6}, {Net: 3 << 30, Bits: 2, Hop: 7}}
	for set := range 1 << len(seven) {
		var list []impl.Route
		for i, r := range seven {
			if set>>i&1 == 1 {
				list = append(list, r)
			}
		}
		heldAgainstSearch(t, list, edgesOf(list)...)
	}
}

// drawer makes numbers that look like any.
type drawer struct{ state uint64 }

func (d *drawer) below(n int64) int64 {
	d.state ^= d.state << 13
	d.state ^= d.state >> 7
	d.state ^= d.state << 17
	return int64(d.state>>1) % n
}

// route lies among few nets, so that many are put anew and lie in each other;
// shift says at which of the bits they differ.
func (d *drawer) route(shift int64) impl.Route {
	bits := max(0, 32-shift-d.below(7))
	return impl.Route{Net: netOf(d.below(64)<<shift&mostAddr, bits), Bits: bits, Hop: d.below(100)}
}

// Whatever was put and taken, in any order, the list is what a map of the
// routes tells, and the longest that fits says.
func TestWhateverWasPutAndTaken(t *testing.T) {
	draw := &drawer{88172645463325252}
	for _, shift := range []int64{0, 1, 13, 25, 26} {
		var list []impl.Route
		held := map[[2]int64]impl.Route{}
		for step := range int64(1500) {
			r := draw.route(shift)
			key := [2]int64{r.Net, r.Bits}
			_, there := held[key]
			var done, want bool
			// For some while more is put, so that there is no room, then taken.
			if draw.below(10) < 8-step/300%2*5 {
				want = there || len(held) < impl.MaxRoutes
				list, done = impl.Put(list, r)
				if want {
					held[key] = r
				}
			} else {
				want = there
				list, done = impl.Take(list, r.Net, r.Bits)
				delete(held, key)
			}
			if done != want {
				t.Fatalf("step %d with %v: %t", step, r, done)
			}
			listIsHeld(t, list, held)
			heldAgainstSearch(t, list, draw.below(mostAddr+1), draw.below(64)<<shift&mostAddr)
			heldAgainstSearch(t, list, edgesOf([]impl.Route{r})...)
			if step%50 == 0 {
				heldAgainstSearch(t, list, edgesOf(list)...)
			}
		}
	}
}

func listIsHeld(t *testing.T, list []impl.Route, held map[[2]int64]impl.Route) {
	t.Helper()
	var all []impl.Route
	for _, r := range held {
		all = append(all, r)
	}
	if want := inRouteOrder(all...); !slices.Equal(list, want) || !impl.RoutesOk(list) {
		t.Fatalf("the list is %v, not %v", list, want)
	}
}

// Each argument stays, and so does the spare room behind it; what an answer
// and the room behind it are made into is seen in no argument.
func TestRouteArgumentsStay(t *testing.T) {
	spare := impl.Route{Net: -7, Bits: -7, Hop: -7}
	for _, list := range append(rightLists(), wrongLists()[:40]...) {
		ahead := append(slices.Clone(list), spare, spare, spare)
		room := slices.Clone(ahead)
		arg := room[:len(list)]
		asked := []impl.Route{{}, {Net: 1 << 31, Bits: 1, Hop: 5}, {Net: mostAddr, Bits: 32, Hop: 7}, {Net: 1, Bits: 31}, {Hop: 100}}
		if len(list) > 0 {
			asked = append(asked, list[0], list[len(list)/2], list[len(list)-1])
		}
		for _, r := range asked {
			impl.RoutesOk(arg)
			impl.HopOf(arg, r.Net)
			more, _ := impl.Put(arg, r)
			less, _ := impl.Take(arg, r.Net, r.Bits)
			spoilRoutes(more)
			spoilRoutes(less)
			if !slices.Equal(room, ahead) {
				t.Fatalf("with %v: %v, not %v", r, room, ahead)
			}
		}
	}
}

// spoilRoutes writes over a list, all the room that it has, and one behind its end.
func spoilRoutes(list []impl.Route) {
	whole := list[:cap(list)]
	for i := range whole {
		whole[i] = impl.Route{Net: -1, Bits: -1, Hop: -1}
	}
	_ = append(list, impl.Route{Net: -2})
}

// What one answer is made into is seen in no other answer.
func TestRouteAnswersAreNewMemory(t *testing.T) {
	list := netsAround(0xaaaaaaaa)
	for _, r := range []impl.Route{{Hop: 9}, list[8], {Net: 1 << 31, Bits: 1, Hop: 40}, {Net: mostAddr, Bits: 32}, {Net: 1, Bits: 31}} {
		put, _ := impl.Put(list, r)
		putWant := slices.Clone(put)
		taken, _ := impl.Take(list, r.Net, r.Bits)
		takenWant := slices.Clone(taken)
		again, _ := impl.Put(list, r)
		spoilRoutes(again)
		againTaken, _ := impl.Take(list, r.Net, r.Bits)
		spoilRoutes(againTaken)
		if !slices.Equal(put, putWant) || !slices.Equal(taken, takenWant) || !slices.Equal(list, netsAround(0xaaaaaaaa)) {
			t.Errorf("with %v: %v, %v, %v", r, put, taken, list)
		}
	}
}
