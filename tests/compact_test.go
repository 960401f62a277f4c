package tests

import (
	"slices"
	"testing"

	"loop.example/g00316/impl"
)

// saidBySearch is the Hop that a route would have if it were not there: of the
// one with the most Bits of all with less Bits that fit its Net; -1 for none.
func saidBySearch(list []impl.Route, r impl.Route) int64 {
	longest := impl.Route{Bits: -1, Hop: -1}
	for _, other := range list {
		if other.Bits < r.Bits && other.Bits > longest.Bits && fitsByText(other, r.Net) {
			longest = other
		}
	}
	return longest.Hop
}

func trimmedBySearch(list []impl.Route) []impl.Route {
	var kept []impl.Route
	for _, r := range list {
		if saidBySearch(list, r) != r.Hop {
			kept = append(kept, r)
		}
	}
	return kept
}

func pairByText(a, b impl.Route) bool {
	if a.Bits != b.Bits || a.Bits == 0 || a.Hop != b.Hop {
		return false
	}
	one, other := bitText(a.Net)[:a.Bits], bitText(b.Net)[:b.Bits]
	last := len(one) - 1
	return one[:last] == other[:last] && one[last] != other[last]
}

func pairedBySearch(list []impl.Route) []impl.Route {
	for i, a := range list {
		for j := i + 1; j < len(list); j++ {
			if !pairByText(a, list[j]) {
				continue
			}
			rest := slices.Concat(list[:i], list[i+1:j], list[j+1:])
			return inRouteOrder(append(rest, impl.Route{Net: a.Net, Bits: a.Bits - 1, Hop: a.Hop})...)
		}
	}
	return list
}

func compactBySearch(list []impl.Route) []impl.Route {
	for {
		next := pairedBySearch(trimmedBySearch(list))
		if len(next) == len(list) {
			return next
		}
		list = next
	}
}

func alikeBySearch(a, b []impl.Route) bool {
	for _, addr := range edgesOf(slices.Concat(a, b)) {
		if hopBySearch(a, addr) != hopBySearch(b, addr) {
			return false
		}
	}
	return true
}

func trimmedIs(t *testing.T, list, want []impl.Route) {
	t.Helper()
	if got := impl.Trimmed(list); !slices.Equal(got, want) {
		t.Fatalf("Trimmed(%v) = %v, not %v", list, got, want)
	}
}

func pairedIs(t *testing.T, list, want []impl.Route) {
	t.Helper()
	if got := impl.Paired(list); !slices.Equal(got, want) {
		t.Fatalf("Paired(%v) = %v, not %v", list, got, want)
	}
}

func compactIs(t *testing.T, list, want []impl.Route) {
	t.Helper()
	if got := impl.Compact(list); !slices.Equal(got, want) {
		t.Fatalf("Compact(%v) = %v, not %v", list, got, want)
	}
}

func alikeIs(t *testing.T, a, b []impl.Route, want bool) {
	t.Helper()
	if impl.Alike(a, b) != want || impl.Alike(b, a) != want {
		t.Fatalf("Alike(%v, %v) = %t, and %t the other way round, not %t", a, b, impl.Alike(a, b), impl.Alike(b, a), want)
	}
}

// heldAgainstWords asks all that the chapter says of one right list.
func heldAgainstWords(t *testing.T, list []impl.Route) {
	t.Helper()
	trimmedIs(t, list, trimmedBySearch(list))
	pairedIs(t, list, pairedBySearch(list))
	compact := impl.Compact(list)
	compactIs(t, list, compactBySearch(list))
	if len(compact) > len(list) || !impl.RoutesOk(compact) {
		t.Fatalf("Compact(%v) = %v", list, compact)
	}
	for _, addr := range edgesOf(list) {
		if got, want := impl.HopOf(compact, addr), hopBySearch(list, addr); got != want {
			t.Fatalf("%v says %d of %d, Compact %v says %d", list, want, addr, compact, got)
		}
	}
	for _, less := range [][]impl.Route{impl.Trimmed(list), impl.Paired(list), compact} {
		alikeIs(t, list, less, true)
	}
	trimmedIs(t, compact, compact)
	pairedIs(t, compact, compact)
	compactIs(t, compact, compact)
}

func TestTrimmedByHand(t *testing.T) {
	all, half, quarter, other := impl.Route{Hop: 1}, impl.Route{Bits: 1, Hop: 1}, impl.Route{Bits: 2, Hop: 1}, impl.Route{Bits: 1, Hop: 2}
	single := impl.Route{Bits: 32, Hop: 1}
	last := impl.Route{Net: mostAddr, Bits: 32, Hop: 1}
	trimmedIs(t, nil, nil)
	trimmedIs(t, []impl.Route{all}, []impl.Route{all})
	trimmedIs(t, []impl.Route{single}, []impl.Route{single})
	trimmedIs(t, []impl.Route{all, half}, []impl.Route{all})
	trimmedIs(t, []impl.Route{all, single, last}, []impl.Route{all})
	trimmedIs(t, []impl.Route{all, half, quarter, single}, []impl.Route{all})
	// The nearest says: one further out with its Hop does not.
	trimmedIs(t, []impl.Route{all, other}, []impl.Route{all, other})
	trimmedIs(t, []impl.Route{all, other, quarter}, []impl.Route{all, other, quarter})
	trimmedIs(t, []impl.Route{all, other, quarter, single}, []impl.Route{all, other, quarter})
	trimmedIs(t, []impl.Route{all, other, {Bits: 2, Hop: 2}, quarterOf(3)}, []impl.Route{all, other, quarterOf(3)})
	// One beside it, or inside it, says nothing of it.
	trimmedIs(t, []impl.Route{half, {Net: 1 << 31, Bits: 2, Hop: 1}}, []impl.Route{half, {Net: 1 << 31, Bits: 2, Hop: 1}})
	trimmedIs(t, []impl.Route{{Bits: 31, Hop: 1}, {Net: 2, Bits: 32, Hop: 1}}, []impl.Route{{Bits: 31, Hop: 1}, {Net: 2, Bits: 32, Hop: 1}})
	trimmedIs(t, []impl.Route{other, quarter}, []impl.Route{other, quarter})
	trimmedIs(t, []impl.Route{half, last}, []impl.Route{half, last})
	// Hop 0 is a Hop as the others are, and none is not 0.
	trimmedIs(t, []impl.Route{{}, {Bits: 5}}, []impl.Route{{}})
	trimmedIs(t, []impl.Route{{Bits: 5}, {Net: mostAddr, Bits: 32}}, []impl.Route{{Bits: 5}, {Net: mostAddr, Bits: 32}})
	trimmedIs(t, []impl.Route{{Bits: 1, Hop: 1}, {Net: 5, Bits: 32}}, []impl.Route{{Bits: 1, Hop: 1}, {Net: 5, Bits: 32}})
	// Two that are a pair are not Trimmed's.
	trimmedIs(t, singles(6, 2), singles(6, 2))
	trimmedIs(t, []impl.Route{half, {Net: 1 << 31, Bits: 1, Hop: 1}}, []impl.Route{half, {Net: 1 << 31, Bits: 1, Hop: 1}})
}

// quarterOf is the second quarter of the first half.
func quarterOf(hop int64) impl.Route { return impl.Route{Net: 1 << 30, Bits: 2, Hop: hop} }

func TestPairedByHand(t *testing.T) {
	all := impl.Route{Hop: 7}
	low, high := impl.Route{Bits: 1, Hop: 7}, impl.Route{Net: 1 << 31, Bits: 1, Hop: 7}
	stays := func(list ...impl.Route) {
		t.Helper()
		pairedIs(t, list, list)
	}
	stays()
	stays(impl.Route{})
	stays(low)
	stays(high)
	stays(impl.Route{Net: mostAddr, Bits: 32})
	// Bits 1 come to Bits 0, at a place that is free and at one that is not.
	pairedIs(t, []impl.Route{low, high}, []impl.Route{all})
	pairedIs(t, []impl.Route{{Hop: 7}, low, high}, []impl.Route{all})
	pairedIs(t, []impl.Route{{Hop: 3}, low, high}, []impl.Route{all})
	// Bits 32, at both ends of all addresses.
	pairedIs(t, []impl.Route{{Bits: 32, Hop: 1}, {Net: 1, Bits: 32, Hop: 1}}, []impl.Route{{Bits: 31, Hop: 1}})
	pairedIs(t, []impl.Route{{Net: mostAddr - 1, Bits: 32}, {Net: mostAddr, Bits: 32}}, []impl.Route{{Net: mostAddr - 1, Bits: 31}})
	// Other Hops, other Bits, another bit than the last, the last and another.
	stays(low, impl.Route{Net: 1 << 31, Bits: 1, Hop: 8})
	stays(low, impl.Route{Net: 1 << 31, Bits: 2, Hop: 7})
	stays(impl.Route{Net: 1, Bits: 32}, impl.Route{Net: 2, Bits: 32})
	stays(impl.Route{Net: 1, Bits: 32}, impl.Route{Net: 3, Bits: 32})
	stays(impl.Route{Net: 0, Bits: 32}, impl.Route{Net: 2, Bits: 32}, impl.Route{Net: 4, Bits: 32}, impl.Route{Net: 1 << 31, Bits: 32})
	stays(impl.Route{Net: 1 << 30, Bits: 2}, impl.Route{Net: 1 << 31, Bits: 2})
	stays(impl.Route{Bits: 2}, impl.Route{Net: 1 << 31, Bits: 2})
	stays(impl.Route{Bits: 31, Hop: 1}, impl.Route{Net: 1, Bits: 32, Hop: 1})
	// One inside another with its Hop is not Paired's.
	stays(all, low)
	stays(all, high)
}

func TestPairedTakesTheFirstOfTwoPairs(t *testing.T) {
	at := func(net, bits, hop int64) impl.Route { return impl.Route{Net: net, Bits: bits, Hop: hop} }
	pairedIs(t, []impl.Route{at(4, 32, 1), at(5, 32, 1), at(6, 32, 1), at(7, 32, 1)}, []impl.Route{at(4, 31, 1), at(6, 32, 1), at(7, 32, 1)})
	pairedIs(t, []impl.Route{at(4, 31, 1), at(6, 32, 1), at(7, 32, 1)}, []impl.Route{at(4, 31, 1), at(6, 31, 1)})
	pairedIs(t, []impl.Route{at(4, 32, 1), at(5, 32, 2), at(6, 32, 1), at(7, 32, 1)}, []impl.Route{at(4, 32, 1), at(5, 32, 2), at(6, 31, 1)})
	// By the first one: its Net, then its Bits, wherever the second one is.
	pairedIs(t, []impl.Route{at(0, 1, 1), at(1<<30, 32, 2), at(1<<30+1, 32, 2), at(1<<31, 1, 1)}, []impl.Route{at(0, 0, 1), at(1<<30, 32, 2), at(1<<30+1, 32, 2)})
	pairedIs(t, []impl.Route{at(0, 1, 1), at(0, 2, 2), at(1<<30, 2, 2), at(1<<31, 1, 1)}, []impl.Route{at(0, 0, 1), at(0, 2, 2), at(1<<30, 2, 2)})
	pairedIs(t, []impl.Route{at(0, 2, 2), at(0, 32, 5), at(1, 32, 5), at(1<<30, 2, 2)}, []impl.Route{at(0, 1, 2), at(0, 32, 5), at(1, 32, 5)})
	pairedIs(t, []impl.Route{at(0, 1, 1), at(0, 32, 5), at(1, 32, 5), at(1<<31, 1, 2)}, []impl.Route{at(0, 1, 1), at(0, 31, 5), at(1<<31, 1, 2)})
	// The place of the one that comes lies ahead of others with its Net.
	pairedIs(t, []impl.Route{at(8, 29, 3), at(8, 31, 1), at(8, 32, 2), at(10, 31, 1)}, []impl.Route{at(8, 29, 3), at(8, 30, 1), at(8, 32, 2)})
	pairedIs(t, []impl.Route{at(8, 29, 3), at(8, 30, 2), at(8, 31, 1), at(8, 32, 2), at(10, 31, 1), at(11, 32, 9)}, []impl.Route{at(8, 29, 3), at(8, 30, 1), at(8, 32, 2), at(11, 32, 9)})
}

func TestCompactByHand(t *testing.T) {
	at := func(net, bits, hop int64) impl.Route { return impl.Route{Net: net, Bits: bits, Hop: hop} }
	compactIs(t, nil, nil)
	compactIs(t, []impl.Route{at(0, 0, 5)}, []impl.Route{at(0, 0, 5)})
	compactIs(t, []impl.Route{at(mostAddr, 32, 5)}, []impl.Route{at(mostAddr, 32, 5)})
	compactIs(t, []impl.Route{at(0, 0, 5), at(mostAddr, 32, 5)}, []impl.Route{at(0, 0, 5)})
	// Nothing to trim, and yet there are two to join.
	compactIs(t, []impl.Route{at(0, 1, 5), at(1<<31, 1, 5)}, []impl.Route{at(0, 0, 5)})
	// What is joined comes to be one of two again, turn by turn.
	compactIs(t, []impl.Route{at(0, 1, 5), at(1<<31, 2, 5), at(3<<30, 3, 5), at(7<<29, 3, 5)}, []impl.Route{at(0, 0, 5)})
	compactIs(t, []impl.Route{at(4, 32, 1), at(5, 32, 1), at(6, 32, 1), at(7, 32, 1)}, []impl.Route{at(4, 30, 1)})
	// What is joined in the place of another can be trimmed in the next turn.
	compactIs(t, []impl.Route{at(0, 0, 1), at(0, 1, 2), at(0, 2, 1), at(1<<30, 2, 1)}, []impl.Route{at(0, 0, 1)})
	// Two pairs, the halves first; the quarters then take the place that is free.
	compactIs(t, []impl.Route{at(0, 1, 2), at(0, 2, 1), at(0, 3, 2), at(1<<30, 2, 1), at(1<<31, 1, 2)}, []impl.Route{at(0, 0, 2), at(0, 1, 1), at(0, 3, 2)})
	// Only the words' two steps: two could say it here, by another Hop for all.
	other := []impl.Route{at(0, 0, 1), at(0, 2, 2), at(1<<30, 2, 3), at(1<<31, 1, 2)}
	compactIs(t, other, other)
	alikeIs(t, other, []impl.Route{at(0, 0, 2), at(1<<30, 2, 3)}, true)
}

// The most there can be: all of one Hop come to one net, or to the few that
// hold just these addresses.
func TestCompactOfMaxRoutes(t *testing.T) {
	oneHop := func(list []impl.Route) []impl.Route {
		for i := range list {
			list[i].Hop = 9
		}
		return list
	}
	compactIs(t, oneHop(singles(0, impl.MaxRoutes)), []impl.Route{{Bits: 26, Hop: 9}})
	compactIs(t, oneHop(singles(mostAddr-63, impl.MaxRoutes)), []impl.Route{{Net: mostAddr - 63, Bits: 26, Hop: 9}})
	compactIs(t, oneHop(singles(1<<31-1, impl.MaxRoutes)), []impl.Route{
		{Net: 1<<31 - 1, Bits: 32, Hop: 9}, {Net: 1 << 31, Bits: 27, Hop: 9}, {Net: 1<<31 + 32, Bits: 28, Hop: 9},
		{Net: 1<<31 + 48, Bits: 29, Hop: 9}, {Net: 1<<31 + 56, Bits: 30, Hop: 9}, {Net: 1<<31 + 60, Bits: 31, Hop: 9}, {Net: 1<<31 + 62, Bits: 32, Hop: 9}})
	compactIs(t, oneHop(fullRoutes()), []impl.Route{{Hop: 9}})
	compactIs(t, oneHop(netsAround(0xaaaaaaaa)), []impl.Route{{Hop: 9}})
	for _, list := range [][]impl.Route{fullRoutes(), singles(0, impl.MaxRoutes), netsAround(0), netsAround(mostAddr)} {
		compactIs(t, list, list)
	}
	for _, less := range []int64{62, 63, 64} {
		heldAgainstWords(t, oneHop(singles(5, less)))
	}
}

func TestCompactOfRightLists(t *testing.T) {
	for _, list := range rightLists() {
		heldAgainstWords(t, list)
		fewHops := slices.Clone(list)
		for i := range fewHops {
			fewHops[i].Hop %= 2
		}
		heldAgainstWords(t, fewHops)
	}
}

// smallLists are all lists of the seven nets with two bits at most behind the
// given ones, each net not in it or in it with one of two Hops.
func smallLists(net, bits int64) [][]impl.Route {
	var seven []impl.Route
	for more := range int64(3) {
		for i := range int64(1) << more {
			seven = append(seven, impl.Route{Net: net + i<<(32-bits-more), Bits: bits + more})
		}
	}
	lists := [][]impl.Route{nil}
	for _, r := range inRouteOrder(seven...) {
		for _, list := range lists {
			for hop := range int64(2) {
				r.Hop = hop
				lists = append(lists, append(slices.Clone(list), r))
			}
		}
	}
	return lists
}

func TestCompactOfAllSmallLists(t *testing.T) {
	for _, at := range [][2]int64{{0, 0}, {mostAddr - 3, 30}} {
		lists := smallLists(at[0], at[1])
		if len(lists) != 2187 {
			t.Fatal(len(lists))
		}
		for i, list := range lists {
			heldAgainstWords(t, list)
			for j := i % 101; j < len(lists); j += 101 {
				alikeIs(t, list, lists[j], alikeBySearch(list, lists[j]))
			}
		}
	}
}

// Many nets with few Hops, that lie in each other and beside each other.
func TestCompactOfAnyLists(t *testing.T) {
	draw := &drawer{2463534242}
	for _, shift := range []int64{0, 1, 13, 25, 26} {
		for _, hops := range []int64{1, 2, 3, 100} {
			for range 25 {
				var list []impl.Route
				for range draw.below(80) {
					r := draw.route(shift)
					r.Hop %= hops
					list, _ = impl.Put(list, r)
				}
				heldAgainstWords(t, list)
				compact := impl.Compact(list)
				for range 10 {
					addr := draw.below(mostAddr + 1)
					if impl.HopOf(compact, addr) != hopBySearch(list, addr) {
						t.Fatalf("Compact(%v) = %v at %d", list, compact, addr)
					}
				}
				other, _ := impl.Put(list, draw.route(shift))
				alikeIs(t, list, other, alikeBySearch(list, other))
			}
		}
	}
}

func TestAlikeByHand(t *testing.T) {
	at := func(net, bits, hop int64) impl.Route { return impl.Route{Net: net, Bits: bits, Hop: hop} }
	alikeIs(t, nil, []impl.Route{}, true)
	alikeIs(t, nil, []impl.Route{at(0, 0, 0)}, false)
	alikeIs(t, nil, []impl.Route{at(0, 32, 0)}, false)
	alikeIs(t, nil, []impl.Route{at(mostAddr, 32, 0)}, false)
	alikeIs(t, []impl.Route{at(0, 0, 1)}, []impl.Route{at(0, 0, 1)}, true)
	alikeIs(t, []impl.Route{at(0, 0, 1)}, []impl.Route{at(0, 0, 2)}, false)
	alikeIs(t, []impl.Route{at(0, 0, 1)}, []impl.Route{at(0, 1, 1)}, false)
	alikeIs(t, []impl.Route{at(0, 0, 1)}, []impl.Route{at(1<<31, 1, 1)}, false)
	alikeIs(t, []impl.Route{at(0, 0, 1)}, []impl.Route{at(0, 1, 1), at(1<<31, 1, 1)}, true)
	// One that is all beside the others is not seen, whatever its Hop.
	alikeIs(t, []impl.Route{at(0, 0, 9), at(0, 1, 1), at(1<<31, 1, 2)}, []impl.Route{at(0, 1, 1), at(1<<31, 1, 2)}, true)
	alikeIs(t, []impl.Route{at(0, 0, 1), at(0, 1, 2)}, []impl.Route{at(0, 0, 2), at(1<<31, 1, 1)}, true)
	// The same nets with the Hops the other way round.
	alikeIs(t, []impl.Route{at(0, 1, 1), at(1<<31, 1, 2)}, []impl.Route{at(0, 1, 2), at(1<<31, 1, 1)}, false)
	// The same but for the second half of a net, where no net begins.
	alikeIs(t, []impl.Route{at(8, 29, 1)}, []impl.Route{at(8, 30, 1)}, false)
	alikeIs(t, []impl.Route{at(8, 29, 1)}, []impl.Route{at(8, 30, 1), at(12, 30, 1)}, true)
	alikeIs(t, []impl.Route{at(0, 0, 3), at(8, 29, 1)}, []impl.Route{at(0, 0, 3), at(8, 30, 1)}, false)
}

// A single address is enough to make two lists differ.
func TestAlikeAtASingleAddress(t *testing.T) {
	for _, list := range rightLists() {
		addrs := edgesOf(list)
		slices.Sort(addrs)
		for _, addr := range slices.Compact(addrs) {
			said := hopBySearch(list, addr)
			same, sameDone := impl.Put(list, impl.Route{Net: addr, Bits: 32, Hop: max(said, 0)})
			if sameDone {
				alikeIs(t, list, same, said >= 0)
			}
			other, otherDone := impl.Put(list, impl.Route{Net: addr, Bits: 32, Hop: (said + 1) % 100})
			if otherDone {
				alikeIs(t, list, other, false)
				alikeIs(t, impl.Compact(other), list, false)
			}
		}
	}
}

// A list that is not right says nothing, and is like none, not like itself
// either.
func TestCompactOfWrongLists(t *testing.T) {
	for _, list := range wrongLists() {
		trimmedIs(t, list, nil)
		pairedIs(t, list, nil)
		compactIs(t, list, nil)
		alikeIs(t, list, list, false)
		alikeIs(t, list, nil, false)
		alikeIs(t, list, []impl.Route{{Hop: 1}}, false)
		alikeIs(t, list, fullRoutes(), false)
	}
}

// What is wrong hides behind what could be trimmed or joined.
func TestCompactOfWrongAmongRight(t *testing.T) {
	for _, wrong := range wrongRoutes() {
		for _, list := range [][]impl.Route{
			{{Hop: 1}, {Bits: 1, Hop: 1}, wrong},
			{wrong, {Net: mostAddr - 1, Bits: 32, Hop: 1}, {Net: mostAddr, Bits: 32, Hop: 1}},
			{{Bits: 32, Hop: 1}, wrong, {Net: mostAddr, Bits: 32, Hop: 1}},
		} {
			trimmedIs(t, list, nil)
			pairedIs(t, list, nil)
			compactIs(t, list, nil)
			alikeIs(t, list, []impl.Route{{Hop: 1}}, false)
		}
	}
}

// Each argument stays with the spare room behind it, and what an answer is
// made into is seen in no argument and in no other answer.
func TestCompactArgumentsStay(t *testing.T) {
	spare := impl.Route{Net: -7, Bits: -7, Hop: -7}
	lists := append(rightLists(), wrongLists()[:40]...)
	lists = append(lists, smallLists(0, 0)[2000:]...)
	for _, list := range lists {
		ahead := append(slices.Clone(list), spare, spare, spare)
		room := slices.Clone(ahead)
		arg := room[:len(list)]
		for _, less := range []func([]impl.Route) []impl.Route{impl.Trimmed, impl.Paired, impl.Compact} {
			answer := less(arg)
			want := slices.Clone(answer)
			spoilRoutes(less(arg))
			if !slices.Equal(answer, want) || !slices.Equal(room, ahead) {
				t.Fatalf("%v, not %v; %v, not %v", answer, want, room, ahead)
			}
			impl.Alike(arg, answer)
			impl.Alike(answer, arg)
			if !slices.Equal(answer, want) || !slices.Equal(room, ahead) {
				t.Fatalf("by Alike: %v, not %v; %v, not %v", answer, want, room, ahead)
			}
			spoilRoutes(answer)
			if !slices.Equal(room, ahead) {
				t.Fatalf("%v, not %v", room, ahead)
			}
		}
	}
}
