package tests

import (
	"math"
	"slices"
	"testing"

	"loop.example/g00316/impl"
)

const (
	mostHosts   = 8
	mostFlows   = 8
	mostWaiting = 1000
)

func house(turn int64, flows ...int64) impl.Host { return impl.Host{Turn: turn, Flows: flows} }

func dealOf(turn int64, hosts ...impl.Host) impl.Deal { return impl.Deal{Turn: turn, Hosts: hosts} }

// evenDeal has n Hosts of m Flows each, all with one count and one Turn.
func evenDeal(turn int64, n int, inner int64, m int, count int64) impl.Deal {
	hosts := make([]impl.Host, n)
	for k := range hosts {
		hosts[k] = house(inner, slices.Repeat([]int64{count}, m)...)
	}
	return dealOf(turn, hosts...)
}

// unevenDeal has n Hosts with 1 to 8 Flows, some of them with none.
func unevenDeal(turn int64, n int) impl.Deal {
	hosts := make([]impl.Host, n)
	for k := range hosts {
		m := 1 + (k*5+n)%mostFlows
		hosts[k] = house(int64(k * 3 % m))
		for f := range m {
			hosts[k].Flows = append(hosts[k].Flows, []int64{0, 1, 2, 0, 3}[(k*7+f*3+n)%5])
		}
	}
	return dealOf(turn, hosts...)
}

func rightDeals() []impl.Deal {
	list := []impl.Deal{
		dealOf(0, house(0, 2, 1), house(0, 0), house(0, 5)),
		dealOf(2, house(1, 2, 1), house(0, 0), house(0, 5)),
		dealOf(1, house(0, 0), house(2, 0, 0, 0), house(0, 0, 1)),
		dealOf(0, house(0, 0, 0, mostWaiting), house(1, 0, mostWaiting-1)),
	}
	for n := 1; n <= mostHosts; n++ {
		for _, turn := range []int64{0, int64(n) / 2, int64(n) - 1} {
			list = append(list, unevenDeal(turn, n))
			for _, m := range []int{1, 2, 5, mostFlows} {
				for _, count := range []int64{0, 1, 2, mostWaiting - 1, mostWaiting} {
					list = append(list, evenDeal(turn, n, 0, m, count), evenDeal(turn, n, int64(m)-1, m, count))
				}
			}
		}
	}
	return list
}

// fewDeals are those that go out in some hundred steps.
func fewDeals() []impl.Deal {
	return slices.DeleteFunc(rightDeals(), func(d impl.Deal) bool { return totalOf(d) > 500 })
}

// smallHouses are all with 1 or 2 Flows of at most so many.
func smallHouses(most int64) []impl.Host {
	var list []impl.Host
	for a := range most + 1 {
		list = append(list, house(0, a))
		for b := range most + 1 {
			list = append(list, house(0, a, b), house(1, a, b))
		}
	}
	return list
}

// smallDeals are all of 1 to 3 such Hosts.
func smallDeals(most int64) []impl.Deal {
	var list []impl.Deal
	houses := smallHouses(most)
	for _, a := range houses {
		list = append(list, dealOf(0, a))
		for _, b := range houses {
			list = append(list, dealOf(0, a, b), dealOf(1, a, b))
			for _, c := range houses {
				list = append(list, dealOf(0, a, b, c), dealOf(1, a, b, c), dealOf(2, a, b, c))
			}
		}
	}
	return list
}

// deal has any number of Hosts and Flows, with counts below most.
func (d *drawer) deal(most int64) impl.Deal {
	hosts := make([]impl.Host, 1+d.below(mostHosts))
	for k := range hosts {
		flows := make([]int64, 1+d.below(mostFlows))
		for f := range flows {
			flows[f] = d.below(most) * d.below(2)
		}
		hosts[k] = house(d.below(int64(len(flows))), flows...)
	}
	return dealOf(d.below(int64(len(hosts))), hosts...)
}

// outside has places that are none of n.
func outside(n int) []int64 {
	all := append(wrongAround(0, int64(n)-1), int64(n), int64(-n), 8, 9, 1<<32, 1<<32+1, -1<<32+1, 1<<8, 1<<16+1)
	return slices.DeleteFunc(all, func(place int64) bool { return within(place, 0, int64(n)-1) })
}

// withHouse has one Host of a copied deal in another's place.
func withHouse(d impl.Deal, place int, h impl.Host) impl.Deal {
	next := keptDeal(d)
	next.Hosts[place] = h
	return next
}

// wrongHouses have one thing that is wrong, and some have all.
func wrongHouses() []impl.Host {
	list := []impl.Host{
		{}, {Flows: []int64{}}, {Turn: -1}, {Turn: 1}, house(8), house(9, 0, 0, 0, 0, 0, 0, 0, 0, 0),
		house(-1, -1), house(1, mostWaiting+1), house(math.MinInt64, math.MinInt64), house(math.MaxInt64, math.MaxInt64),
		// What is too much and too little together may be right in all.
		house(0, -1, 1), house(0, 1, -1), house(0, mostWaiting+1, -1), house(1, math.MinInt64, math.MinInt64), house(1, math.MaxInt64, math.MinInt64, 5),
	}
	for _, m := range []int{9, 10, 16, 17, 257, 1<<16 + 1} {
		list = append(list, house(0, make([]int64, m)...), house(8, slices.Repeat([]int64{1}, m)...))
	}
	for _, m := range []int{1, 2, 5, mostFlows} {
		for _, turn := range outside(m) {
			list = append(list, house(turn, make([]int64, m)...), house(turn, slices.Repeat([]int64{mostWaiting}, m)...))
		}
		for _, count := range wrongAround(0, mostWaiting) {
			for f := range m {
				flows := slices.Repeat([]int64{3}, m)
				flows[f] = count
				list = append(list, house(int64(m)-1, flows...), house(0, flows...))
			}
		}
	}
	return list
}

func wrongDeals() []impl.Deal {
	list := []impl.Deal{
		{}, {Hosts: []impl.Host{}}, {Turn: -1}, {Turn: 1}, {Turn: 7}, {Turn: math.MinInt64}, {Turn: math.MaxInt64},
		dealOf(-1, house(-1, -1)), dealOf(1, house(1, mostWaiting+1)), dealOf(0, impl.Host{}), dealOf(0, make([]impl.Host, 8)...),
	}
	for _, n := range []int{9, 10, 16, 17, 257, 1<<16 + 1} {
		list = append(list, evenDeal(0, n, 0, 1, 1), evenDeal(8, n, 0, 1, 0))
	}
	for _, n := range []int{1, 2, 5, mostHosts} {
		for _, turn := range outside(n) {
			list = append(list, evenDeal(turn, n, 0, 1, 1), evenDeal(turn, n, 7, 8, 0), evenDeal(turn, n, 0, 8, mostWaiting))
		}
	}
	for _, h := range wrongHouses() {
		list = append(list, dealOf(0, h), dealOf(1, house(0, 1), h), dealOf(0, house(0, 1), h, house(0, 1)))
		for _, place := range []int{0, 4, 7} {
			list = append(list, withHouse(evenDeal(7, 8, 0, 2, 1), place, h), withHouse(evenDeal(0, 8, 0, 2, 0), place, h))
		}
	}
	return list
}

func rightDealByWords(d impl.Deal) bool {
	if !within(int64(len(d.Hosts)), 1, 8) || !within(d.Turn, 0, int64(len(d.Hosts))-1) {
		return false
	}
	for _, h := range d.Hosts {
		if !within(int64(len(h.Flows)), 1, 8) || !within(h.Turn, 0, int64(len(h.Flows))-1) {
			return false
		}
		for _, count := range h.Flows {
			if !within(count, 0, 1000) {
				return false
			}
		}
	}
	return true
}

func keptDeal(d impl.Deal) impl.Deal {
	hosts := make([]impl.Host, len(d.Hosts))
	for k, h := range d.Hosts {
		hosts[k] = house(h.Turn, append([]int64{}, h.Flows...)...)
	}
	return dealOf(d.Turn, hosts...)
}

func sameDeal(a, b impl.Deal) bool {
	return a.Turn == b.Turn && slices.EqualFunc(a.Hosts, b.Hosts, func(g, h impl.Host) bool {
		return g.Turn == h.Turn && slices.Equal(g.Flows, h.Flows)
	})
}

func totalOf(d impl.Deal) int64 {
	total := int64(0)
	for _, h := range d.Hosts {
		for _, count := range h.Flows {
			total += count
		}
	}
	return total
}

func hasSome(h impl.Host) bool { return slices.Max(h.Flows) > 0 }

// inTurn has the places of n in the order that begins at turn.
func inTurn(turn int64, n int) []int64 {
	var all []int64
	for k := range int64(n) {
		all = append(all, k)
	}
	return slices.Concat(all[turn:], all[:turn])
}

// followers is what is behind each of n places: 1, 2 and so on, and 0.
func followers(n int) []int64 {
	return append(inTurn(0, n)[1:], 0)
}

// wentByList relies on a right deal.
func wentByList(d impl.Deal) (impl.Deal, int64, int64) {
	next := keptDeal(d)
	for _, host := range inTurn(d.Turn, len(d.Hosts)) {
		h := d.Hosts[host]
		for _, flow := range inTurn(h.Turn, len(h.Flows)) {
			if h.Flows[flow] != 0 {
				next.Turn = followers(len(d.Hosts))[host]
				next.Hosts[host].Turn = followers(len(h.Flows))[flow]
				next.Hosts[host].Flows[flow] = h.Flows[flow] - 1
				return next, host, flow
			}
		}
	}
	return next, -1, -1
}

// rankByGoing relies on a right deal: it lets go until this Host has its turn.
func rankByGoing(d impl.Deal, host int64) int64 {
	if !hasSome(d.Hosts[host]) {
		return -1
	}
	for ahead := int64(0); ; ahead++ {
		next, gone, _ := wentByList(d)
		if gone == host {
			return ahead
		}
		d = next
	}
}

func waitingIs(t *testing.T, d impl.Deal, want int64) {
	t.Helper()
	if got := impl.Waiting(d); got != want {
		t.Fatalf("Waiting(%v) = %d, want %d", d, got, want)
	}
}

func cameIs(t *testing.T, d impl.Deal, host, flow int64, want impl.Deal, wantDone bool) {
	t.Helper()
	got, done := impl.Came(d, host, flow)
	if !sameDeal(got, want) || done != wantDone {
		t.Fatalf("Came(%v, %d, %d) = %v, %v, want %v, %v", d, host, flow, got, done, want, wantDone)
	}
}

func wentIs(t *testing.T, d, want impl.Deal, wantHost, wantFlow int64) {
	t.Helper()
	got, host, flow := impl.Went(d)
	if !sameDeal(got, want) || host != wantHost || flow != wantFlow {
		t.Fatalf("Went(%v) = %v, %d, %d, want %v, %d, %d", d, got, host, flow, want, wantHost, wantFlow)
	}
}

func rankIs(t *testing.T, d impl.Deal, host, want int64) {
	t.Helper()
	if got := impl.Rank(d, host); got != want {
		t.Fatalf("Rank(%v, %d) = %d, want %d", d, host, got, want)
	}
}

// heldAgainstList relies on a right deal.
func heldAgainstList(t *testing.T, d impl.Deal) {
	t.Helper()
	if !impl.DealOk(d) {
		t.Fatalf("%v is right", d)
	}
	waitingIs(t, d, totalOf(d))
	next, host, flow := wentByList(d)
	wentIs(t, d, next, host, flow)
	for host := range d.Hosts {
		rankIs(t, d, int64(host), rankByGoing(d, int64(host)))
	}
}

// cameIsAtEach asks for each Flow of a right deal.
func cameIsAtEach(t *testing.T, d impl.Deal) {
	t.Helper()
	for host, h := range d.Hosts {
		for flow, count := range h.Flows {
			next := keptDeal(d)
			if count < mostWaiting {
				next.Hosts[host].Flows[flow] = count + 1
			}
			cameIs(t, d, int64(host), int64(flow), next, count < mostWaiting)
		}
	}
}

func TestDealOk(t *testing.T) {
	for _, d := range rightDeals() {
		if !impl.DealOk(d) || !rightDealByWords(d) {
			t.Fatalf("%v is right", d)
		}
	}
	for _, d := range wrongDeals() {
		if impl.DealOk(d) || rightDealByWords(d) {
			t.Fatalf("%v is wrong", d)
		}
	}
}

// Each count of Hosts and of Flows, with each Turn.
func TestDealOkAtEachSizeAndTurn(t *testing.T) {
	for n := range 12 {
		for turn := int64(-3); turn <= 12; turn++ {
			for m := range 12 {
				for inner := int64(-3); inner <= 12; inner++ {
					d := evenDeal(turn, n, inner, m, 1)
					if got := impl.DealOk(d); got != rightDealByWords(d) {
						t.Fatalf("DealOk(%v) = %v", d, got)
					}
				}
			}
		}
	}
}

func TestDealOkAtEachCount(t *testing.T) {
	for count := int64(-300); count <= mostWaiting+300; count++ {
		for _, d := range []impl.Deal{dealOf(0, house(0, count)), dealOf(0, house(0, 0), house(1, 0, 0, count)), dealOf(1, house(0, count, 5), house(0, 0))} {
			if got := impl.DealOk(d); got != within(count, 0, mostWaiting) {
				t.Fatalf("DealOk(%v) = %v", d, got)
			}
		}
	}
}

// A wrong count, or a wrong Turn, is found at each place of a full deal.
func TestDealOkFindsEachWrongNumber(t *testing.T) {
	for host := range mostHosts {
		for _, turn := range outside(mostFlows) {
			d := evenDeal(3, mostHosts, 3, mostFlows, 3)
			d.Hosts[host].Turn = turn
			if impl.DealOk(d) {
				t.Fatalf("%v is wrong", d)
			}
		}
		for flow := range mostFlows {
			for _, count := range wrongAround(0, mostWaiting) {
				d := evenDeal(3, mostHosts, 3, mostFlows, 3)
				d.Hosts[host].Flows[flow] = count
				if impl.DealOk(d) {
					t.Fatalf("%v is wrong", d)
				}
			}
		}
	}
}

func TestWaitingByHand(t *testing.T) {
	for _, k := range []struct {
		d    impl.Deal
		want int64
	}{
		{dealOf(0, house(0, 0)), 0},
		{dealOf(0, house(0, 1)), 1},
		{dealOf(0, house(0, mostWaiting)), 1000},
		{dealOf(0, house(0, 2, 1), house(0, 0), house(0, 5)), 8},
		{dealOf(2, house(1, 2, 1), house(0, 0), house(0, 5)), 8},
		{dealOf(1, house(0, 0, 0), house(0, 0)), 0},
		{evenDeal(0, 8, 0, 8, 1), 64},
		{evenDeal(7, 8, 7, 8, mostWaiting), 64000},
		{evenDeal(7, 8, 7, 8, mostWaiting-1), 63936},
		{evenDeal(7, 8, 7, 8, 0), 0},
		{dealOf(0), -1},
		{dealOf(0, house(0)), -1},
		{dealOf(0, house(0, -1)), -1},
		{dealOf(0, house(0, mostWaiting+1)), -1},
		{dealOf(1, house(0, 1)), -1},
		{dealOf(0, house(1, 1)), -1},
		{dealOf(0, house(0, 5, -1), house(0, 1)), -1},
	} {
		waitingIs(t, k.d, k.want)
	}
}

func TestCameByHand(t *testing.T) {
	d := dealOf(1, house(0, 2, mostWaiting), house(2, 0, 0, mostWaiting-1))
	for _, k := range []struct {
		host, flow int64
		want       impl.Deal
		done       bool
	}{
		{0, 0, dealOf(1, house(0, 3, mostWaiting), house(2, 0, 0, mostWaiting-1)), true},
		{1, 0, dealOf(1, house(0, 2, mostWaiting), house(2, 1, 0, mostWaiting-1)), true},
		{1, 1, dealOf(1, house(0, 2, mostWaiting), house(2, 0, 1, mostWaiting-1)), true},
		{1, 2, dealOf(1, house(0, 2, mostWaiting), house(2, 0, 0, mostWaiting)), true},
		{0, 1, d, false},
		// The other Host has a third Flow.
		{0, 2, d, false},
		{1, 3, d, false},
		{2, 0, d, false},
		{-1, 0, d, false},
		{0, -1, d, false},
		{-1, -1, d, false},
		{2, 3, d, false},
	} {
		cameIs(t, d, k.host, k.flow, k.want, k.done)
	}
	cameIs(t, dealOf(0, house(0, 0)), 0, 0, dealOf(0, house(0, 1)), true)
	cameIs(t, dealOf(0, house(0, mostWaiting-1)), 0, 0, dealOf(0, house(0, mostWaiting)), true)
	cameIs(t, dealOf(0, house(0, mostWaiting)), 0, 0, dealOf(0, house(0, mostWaiting)), false)
	cameIs(t, dealOf(0, house(0, mostWaiting+1)), 0, 0, impl.Deal{}, false)
	cameIs(t, dealOf(0, house(0, 1), house(0, -1)), 0, 0, impl.Deal{}, false)
	cameIs(t, dealOf(1, house(0, 1)), 0, 0, impl.Deal{}, false)
	cameIs(t, dealOf(0, house(1, 1)), 0, 0, impl.Deal{}, false)
	cameIs(t, impl.Deal{}, 0, 0, impl.Deal{}, false)
}

func TestWentByHand(t *testing.T) {
	for _, k := range []struct {
		d, want    impl.Deal
		host, flow int64
	}{
		{dealOf(0, house(0, 1)), dealOf(0, house(0, 0)), 0, 0},
		{dealOf(0, house(0, mostWaiting)), dealOf(0, house(0, mostWaiting-1)), 0, 0},
		{dealOf(0, house(0, 2, 1), house(0, 5)), dealOf(1, house(1, 1, 1), house(0, 5)), 0, 0},
		{dealOf(0, house(1, 2, 1), house(0, 5)), dealOf(1, house(0, 2, 0), house(0, 5)), 0, 1},
		{dealOf(1, house(1, 2, 1), house(0, 5)), dealOf(0, house(1, 2, 1), house(0, 4)), 1, 0},
		// A Flow with none is passed over, and round to the first one.
		{dealOf(0, house(1, 2, 0, 0), house(0, 5)), dealOf(1, house(1, 1, 0, 0), house(0, 5)), 0, 0},
		{dealOf(0, house(1, 2, 0, 4), house(0, 5)), dealOf(1, house(0, 2, 0, 3), house(0, 5)), 0, 2},
		// A Host with none is passed over, stays as it is, and round likewise.
		{dealOf(1, house(0, 3), house(1, 0, 0), house(0, 0)), dealOf(1, house(0, 2), house(1, 0, 0), house(0, 0)), 0, 0},
		{dealOf(1, house(0, 3), house(1, 0, 0), house(1, 7, 0)), dealOf(0, house(0, 3), house(1, 0, 0), house(1, 6, 0)), 2, 0},
		{dealOf(0, house(0, 0)), dealOf(0, house(0, 0)), -1, -1},
		{dealOf(1, house(1, 0, 0), house(2, 0, 0, 0)), dealOf(1, house(1, 0, 0), house(2, 0, 0, 0)), -1, -1},
		{dealOf(1, house(0, 1)), impl.Deal{}, -1, -1},
		{dealOf(0, house(1, 1)), impl.Deal{}, -1, -1},
		{dealOf(0, house(0, 1), house(0, -1)), impl.Deal{}, -1, -1},
		{dealOf(0, house(0, 0), house(0, mostWaiting+1)), impl.Deal{}, -1, -1},
		{dealOf(0, house(0, 1), house(0)), impl.Deal{}, -1, -1},
		{impl.Deal{}, impl.Deal{}, -1, -1},
	} {
		wentIs(t, k.d, k.want, k.host, k.flow)
	}
}

func TestRankByHand(t *testing.T) {
	for _, k := range []struct {
		d          impl.Deal
		host, want int64
	}{
		{dealOf(0, house(0, 1)), 0, 0},
		{dealOf(0, house(0, 0)), 0, -1},
		{dealOf(0, house(0, 1), house(0, 0), house(0, 5)), 0, 0},
		{dealOf(0, house(0, 1), house(0, 0), house(0, 5)), 1, -1},
		{dealOf(0, house(0, 1), house(0, 0), house(0, 5)), 2, 1},
		{dealOf(1, house(0, 1), house(0, 0), house(0, 5)), 2, 0},
		{dealOf(1, house(0, 1), house(0, 0), house(0, 5)), 0, 1},
		{dealOf(2, house(0, 1), house(0, 9), house(0, 5)), 1, 2},
		// Several of one Host don't come ahead, several Flows neither.
		{dealOf(0, house(0, 9, 9, 9), house(0, 1)), 1, 1},
		{dealOf(0, house(0, 0, 0, 1), house(0, 0, 1)), 1, 1},
		{dealOf(0, house(0, 1), house(0, 1)), 2, -1},
		{dealOf(0, house(0, 1), house(0, 1)), -1, -1},
		{dealOf(2, house(0, 1), house(0, 1)), 0, -1},
		{dealOf(0, house(0, 1), house(0, 1001)), 0, -1},
		{dealOf(0, house(0, 1), house(1, 1)), 0, -1},
		{impl.Deal{}, 0, -1},
	} {
		rankIs(t, k.d, k.host, k.want)
	}
}

func TestRankOfFullDeals(t *testing.T) {
	for turn := range int64(mostHosts) {
		for _, count := range []int64{1, mostWaiting - 1, mostWaiting} {
			for want, host := range inTurn(turn, mostHosts) {
				rankIs(t, evenDeal(turn, mostHosts, 0, mostFlows, count), host, int64(want))
			}
		}
		for host := range int64(mostHosts) {
			rankIs(t, evenDeal(turn, mostHosts, 0, mostFlows, 0), host, -1)
		}
	}
}

func TestRightDealsByList(t *testing.T) {
	for _, d := range rightDeals() {
		heldAgainstList(t, d)
		cameIsAtEach(t, d)
	}
}

func TestSmallDealsByList(t *testing.T) {
	for _, d := range smallDeals(2) {
		heldAgainstList(t, d)
	}
	for _, d := range smallDeals(1) {
		cameIsAtEach(t, d)
	}
}

func TestDrawnDealsByList(t *testing.T) {
	draw := &drawer{state: 12}
	for _, most := range []int64{2, 3, 50, mostWaiting + 1} {
		for range 500 {
			d := draw.deal(most)
			heldAgainstList(t, d)
			cameIsAtEach(t, d)
		}
	}
}

// One Flow alone has any: wherever the Turns are, it goes, until it has none.
func TestOneFlowAtEachPlace(t *testing.T) {
	for n := 1; n <= mostHosts; n++ {
		for m := 1; m <= mostFlows; m++ {
			for place := range n * m {
				host, flow := place/m, place%m
				for turns := range n * m {
					d := evenDeal(int64(turns/m), n, int64(turns%m), m, 0)
					d.Hosts[host].Flows[flow] = 2
					for left := int64(1); left >= 0; left-- {
						rankIs(t, d, int64(host), 0)
						want := keptDeal(d)
						want.Turn = followers(n)[host]
						want.Hosts[host].Turn = followers(m)[flow]
						want.Hosts[host].Flows[flow] = left
						wentIs(t, d, want, int64(host), int64(flow))
						d = want
					}
					wentIs(t, d, d, -1, -1)
				}
			}
		}
	}
}

// turns keeps, from some step on, how often each has had its turn, and which
// of them had any at that step.
type turns struct {
	had   []int
	waits []bool
}

// took is false where one has its second turn ahead of another's first.
func (s *turns) took(who int64) bool {
	s.had[who]++
	if s.had[who] < 2 {
		return true
	}
	for k, waits := range s.waits {
		if waits && s.had[k] == 0 {
			return false
		}
	}
	return true
}

func hostTurns(d impl.Deal) *turns {
	s := &turns{had: make([]int, len(d.Hosts))}
	for _, h := range d.Hosts {
		s.waits = append(s.waits, hasSome(h))
	}
	return s
}

func flowTurns(h impl.Host) *turns {
	s := &turns{had: make([]int, len(h.Flows))}
	for _, count := range h.Flows {
		s.waits = append(s.waits, count > 0)
	}
	return s
}

// ledger asks, from every step on, for the turns of Hosts and of each Host's
// Flows; what is settled is asked no more.
type ledger struct {
	hosts []*turns
	flows [][]*turns
}

func (l *ledger) begin(d impl.Deal) {
	l.hosts = append(l.hosts, hostTurns(d))
	if l.flows == nil {
		l.flows = make([][]*turns, len(d.Hosts))
	}
	for k, h := range d.Hosts {
		l.flows[k] = append(l.flows[k], flowTurns(h))
	}
}

func allTook(list []*turns, who int64) ([]*turns, bool) {
	for _, s := range list {
		if !s.took(who) {
			return nil, false
		}
	}
	return slices.DeleteFunc(list, func(s *turns) bool { return s.had[who] > 1 }), true
}

func (l *ledger) went(host, flow int64) bool {
	var hosts, flows bool
	l.hosts, hosts = allTook(l.hosts, host)
	l.flows[host], flows = allTook(l.flows[host], flow)
	return hosts && flows
}

// goesOut lets go until there is none.
func goesOut(t *testing.T, d impl.Deal) {
	t.Helper()
	start, book := d, &ledger{}
	for left := totalOf(d); left > 0; left-- {
		waitingIs(t, d, left)
		book.begin(d)
		next, host, flow := impl.Went(d)
		if !within(host, 0, int64(len(d.Hosts))-1) || !within(flow, 0, int64(len(d.Hosts[host].Flows))-1) {
			t.Fatalf("Went(%v) tells %d and %d", d, host, flow)
		}
		if !book.went(host, flow) {
			t.Fatalf("from %v on: at %v %d and %d has two turns ahead of another one", start, d, host, flow)
		}
		want := keptDeal(d)
		want.Turn, want.Hosts[host].Turn = followers(len(d.Hosts))[host], followers(len(d.Hosts[host].Flows))[flow]
		want.Hosts[host].Flows[flow]--
		if !sameDeal(next, want) || want.Hosts[host].Flows[flow] < 0 || !impl.DealOk(next) {
			t.Fatalf("Went(%v) = %v, want %v", d, next, want)
		}
		d = next
	}
	waitingIs(t, d, 0)
	wentIs(t, d, d, -1, -1)
	for host := range d.Hosts {
		rankIs(t, d, int64(host), -1)
	}
}

func TestEachHasItsTurnBeforeOneHasTwo(t *testing.T) {
	for _, d := range fewDeals() {
		goesOut(t, d)
	}
	for _, d := range smallDeals(2) {
		goesOut(t, d)
	}
	draw := &drawer{state: 1212}
	for range 300 {
		goesOut(t, draw.deal(6))
	}
	goesOut(t, dealOf(1, house(1, mostWaiting, mostWaiting-1, 0), house(0, 3), house(0, 0, mostWaiting)))
}

// Of two Hosts with plenty each has half of the turns, however many Flows the
// one has, and of these each Flow its part.
func TestHousesHaveTheSame(t *testing.T) {
	d := dealOf(0, house(5, slices.Repeat([]int64{mostWaiting}, 8)...), house(0, mostWaiting), house(0, 0))
	had := map[[2]int64]int{}
	for range 1600 {
		next, host, flow := impl.Went(d)
		d = next
		had[[2]int64{host, flow}]++
	}
	for flow := range int64(8) {
		if had[[2]int64{0, flow}] != 100 {
			t.Fatal(had)
		}
	}
	if had[[2]int64{1, 0}] != 800 || len(had) != 9 {
		t.Fatal(had)
	}
}

// Rank is how many go ahead when Went is called again and again, and it goes
// down by 1 with each of them.
func TestRankIsWhoGoesAhead(t *testing.T) {
	draw := &drawer{state: 777}
	list := fewDeals()
	for range 300 {
		list = append(list, draw.deal(4))
	}
	for _, d := range list {
		for host := range int64(len(d.Hosts)) {
			if !hasSome(d.Hosts[host]) {
				rankIs(t, d, host, -1)
				continue
			}
			gone, at := map[int64]bool{}, d
			rank := impl.Rank(d, host)
			for {
				rankIs(t, at, host, rank-int64(len(gone)))
				next, who, _ := impl.Went(at)
				if who == host {
					break
				}
				if gone[who] || !hasSome(d.Hosts[who]) {
					t.Fatalf("from %v on: %d goes twice ahead of %d", d, who, host)
				}
				gone[who], at = true, next
			}
			if rank != int64(len(gone)) {
				t.Fatalf("Rank(%v, %d) = %d, and %v go ahead", d, host, rank, gone)
			}
		}
	}
}

// Those who come between keep nobody from his turn.
func TestDrawnComingAndGoing(t *testing.T) {
	draw := &drawer{state: 31}
	for range 100 {
		d, book := draw.deal(3), &ledger{}
		for range 200 {
			if draw.below(2) == 0 {
				host := draw.below(int64(len(d.Hosts)))
				flow := draw.below(int64(len(d.Hosts[host].Flows)))
				before := impl.Waiting(d)
				next, done := impl.Came(d, host, flow)
				if !done {
					t.Fatalf("Came(%v, %d, %d) is false", d, host, flow)
				}
				waitingIs(t, next, before+1)
				d = next
			} else if totalOf(d) > 0 {
				book.begin(d)
				before := impl.Waiting(d)
				next, host, flow := impl.Went(d)
				if !within(host, 0, int64(len(d.Hosts))-1) || !book.went(host, flow) {
					t.Fatalf("at %v: %d and %d", d, host, flow)
				}
				waitingIs(t, next, before-1)
				d = next
			}
			heldAgainstList(t, d)
		}
	}
}

// Up to 1000 and no further, then down to none again.
func TestCameUntilThereIsNoRoom(t *testing.T) {
	d := dealOf(1, house(0, 0, 7), house(2, 0, 0, 0))
	for count := range int64(mostWaiting) {
		want := dealOf(1, house(0, 0, 7), house(2, 0, count+1, 0))
		cameIs(t, d, 1, 1, want, true)
		waitingIs(t, want, 7+count+1)
		d, _ = impl.Came(d, 1, 1)
	}
	for range 3 {
		cameIs(t, d, 1, 1, d, false)
		waitingIs(t, d, mostWaiting+7)
		d, _ = impl.Came(d, 1, 1)
	}
	goesOut(t, d)
}

func TestWrongDeals(t *testing.T) {
	places := []int64{0, 1, 7, 8, -1, math.MinInt64, math.MaxInt64}
	for _, d := range wrongDeals() {
		waitingIs(t, d, -1)
		wentIs(t, d, impl.Deal{}, -1, -1)
		for _, host := range places {
			rankIs(t, d, host, -1)
			for _, flow := range places {
				cameIs(t, d, host, flow, impl.Deal{}, false)
			}
		}
	}
}

func TestWrongPlaces(t *testing.T) {
	for _, d := range append(rightDeals(), unevenDeal(0, 8)) {
		for _, host := range outside(len(d.Hosts)) {
			rankIs(t, d, host, -1)
			for _, flow := range []int64{0, -1, 8, math.MinInt64, math.MaxInt64} {
				cameIs(t, d, host, flow, d, false)
			}
		}
		for host, h := range d.Hosts {
			for _, flow := range outside(len(h.Flows)) {
				cameIs(t, d, int64(host), flow, d, false)
			}
		}
	}
}

// roomyDeal is the same with spare room behind each list and behind all, with
// something written there.
func roomyDeal(d impl.Deal) impl.Deal {
	hosts := make([]impl.Host, 0, len(d.Hosts)+2)
	for _, h := range d.Hosts {
		room := append(append([]int64{}, h.Flows...), 901, 902, 903)
		hosts = append(hosts, house(h.Turn, room[:len(h.Flows)]...))
	}
	behind := append(hosts, house(0, 904, 905), house(1, 906, 907))
	return dealOf(d.Turn, behind[:len(hosts)]...)
}

// wholeDeal is all of it, the spare room among it, as new memory.
func wholeDeal(d impl.Deal) impl.Deal {
	var hosts []impl.Host
	for _, h := range d.Hosts[:cap(d.Hosts)] {
		hosts = append(hosts, house(h.Turn, append([]int64{}, h.Flows[:cap(h.Flows)]...)...))
	}
	return dealOf(d.Turn, hosts...)
}

// spoilDeal writes into all that belongs to a deal, spare room too.
func spoilDeal(d impl.Deal) {
	for k, h := range d.Hosts[:cap(d.Hosts)] {
		for f := range h.Flows[:cap(h.Flows)] {
			h.Flows[:cap(h.Flows)][f] = -77
		}
		d.Hosts[:cap(d.Hosts)][k].Turn = -78
		d.Hosts[:cap(d.Hosts)][k].Flows = nil
	}
}

// noMemoryTwice asks whether any place is in two lists of the deals.
func noMemoryTwice(t *testing.T, deals ...impl.Deal) {
	t.Helper()
	counts, hosts := map[*int64]int{}, map[*impl.Host]int{}
	for _, d := range deals {
		for k, h := range d.Hosts[:cap(d.Hosts)] {
			hosts[&d.Hosts[:cap(d.Hosts)][k]]++
			for f := range h.Flows[:cap(h.Flows)] {
				counts[&h.Flows[:cap(h.Flows)][f]]++
			}
		}
	}
	for _, n := range counts {
		if n > 1 {
			t.Fatalf("%v: Hosts share memory", deals)
		}
	}
	for _, n := range hosts {
		if n > 1 {
			t.Fatalf("%v: deals share memory", deals)
		}
	}
}

// somePlaces of each deal are right, and some are wrong.
func somePlaces(d impl.Deal) [][2]int64 {
	last := int64(len(d.Hosts)) - 1
	list := [][2]int64{{0, 0}, {-1, 0}, {last + 1, 0}, {0, -1}, {0, 8}, {math.MinInt64, math.MaxInt64}}
	if last >= 0 {
		list = append(list, [2]int64{last, int64(len(d.Hosts[last].Flows)) - 1})
	}
	return list
}

func TestDealArgumentsStay(t *testing.T) {
	for _, d := range slices.Concat(rightDeals(), wrongDeals()) {
		if len(d.Hosts) > 300 || len(d.Hosts) > 0 && len(d.Hosts[0].Flows) > 300 {
			continue
		}
		d = roomyDeal(d)
		kept, all := keptDeal(d), wholeDeal(d)
		for _, place := range somePlaces(d) {
			impl.DealOk(d)
			impl.Waiting(d)
			impl.Rank(d, place[0])
			one, _ := impl.Came(d, place[0], place[1])
			other, _ := impl.Came(d, place[0], place[1])
			gone, _, _ := impl.Went(d)
			again, _, _ := impl.Went(d)
			noMemoryTwice(t, d, one, other, gone, again)
			oneKept, goneKept := keptDeal(one), keptDeal(gone)
			spoilDeal(other)
			spoilDeal(again)
			if !sameDeal(one, oneKept) || !sameDeal(gone, goneKept) {
				t.Fatalf("of %v: %v and %v have become %v and %v", kept, oneKept, goneKept, one, gone)
			}
			spoilDeal(one)
			spoilDeal(gone)
			if !sameDeal(d, kept) || !sameDeal(wholeDeal(d), all) {
				t.Fatalf("%v has become %v", kept, d)
			}
		}
	}
}

// A deal that is answered as it is owns its memory too.
func TestDealAsItIsIsNewMemory(t *testing.T) {
	full, none := evenDeal(7, 8, 7, 8, mostWaiting), evenDeal(7, 8, 7, 8, 0)
	for _, place := range [][2]int64{{0, 0}, {7, 7}, {8, 0}, {0, 8}, {-1, -1}} {
		kept := keptDeal(full)
		same, done := impl.Came(full, place[0], place[1])
		noMemoryTwice(t, full, same)
		spoilDeal(same)
		if done || !sameDeal(full, kept) {
			t.Fatalf("%v has become %v", kept, full)
		}
	}
	kept := keptDeal(none)
	same, host, flow := impl.Went(none)
	noMemoryTwice(t, none, same)
	spoilDeal(same)
	if host != -1 || flow != -1 || !sameDeal(none, kept) {
		t.Fatalf("%v has become %v", kept, none)
	}
}

// Hosts that come with one list of Flows each have their own in the answer,
// and what goes or comes is in one of them alone.
func TestDealOfSharedFlows(t *testing.T) {
	room := []int64{3, 0, 5, 4}
	d := dealOf(1, house(0, room[:2]...), house(1, room[:2]...), house(1, room[1:4]...))
	for _, place := range [][2]int64{{0, 0}, {0, 1}, {1, 1}, {2, 0}, {2, 2}} {
		want := keptDeal(d)
		want.Hosts[place[0]].Flows[place[1]]++
		cameIs(t, d, place[0], place[1], want, true)
		more, _ := impl.Came(d, place[0], place[1])
		noMemoryTwice(t, more, dealOf(0, house(0, room...)))
		spoilDeal(more)
	}
	refused, _ := impl.Came(d, 3, 0)
	noMemoryTwice(t, refused, dealOf(0, house(0, room...)))
	wentIs(t, d, dealOf(2, house(0, 3, 0), house(1, 2, 0), house(1, 0, 5, 4)), 1, 0)
	gone, _, _ := impl.Went(d)
	noMemoryTwice(t, gone, dealOf(0, house(0, room...)))
	spoilDeal(gone)
	spoilDeal(refused)
	if !slices.Equal(room, []int64{3, 0, 5, 4}) {
		t.Fatalf("the Flows have become %v", room)
	}
}

// What came first is not changed by what is made of it, twice.
func TestDealsPartWays(t *testing.T) {
	d := dealOf(0, house(0, 5, 5), house(1, 0, 5))
	for range 6 {
		one, _, _ := impl.Went(d)
		other, _ := impl.Came(d, 1, 0)
		third, _, _ := impl.Went(one)
		noMemoryTwice(t, d, one, other, third)
		kept := keptDeal(one)
		spoilDeal(other)
		spoilDeal(third)
		if !sameDeal(one, kept) {
			t.Fatalf("%v has become %v", kept, one)
		}
		d = one
	}
}
