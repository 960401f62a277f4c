package tests

import (
	"math"
	"slices"
	"strings"
	"testing"

	"loop.example/g00316/impl"
)

// ruleField is one number of a rule that has bounds of its own.
type ruleField struct {
	of              func(r *impl.Rule) *int64
	least, greatest int64
}

func ruleFields() []ruleField {
	return []ruleField{
		{func(r *impl.Rule) *int64 { return &r.Id }, 1, 999},
		{func(r *impl.Rule) *int64 { return &r.Prio }, 0, 99},
		{func(r *impl.Rule) *int64 { return &r.SrcNet }, 0, mostAddr},
		{func(r *impl.Rule) *int64 { return &r.SrcBits }, 0, 32},
		{func(r *impl.Rule) *int64 { return &r.DstNet }, 0, mostAddr},
		{func(r *impl.Rule) *int64 { return &r.DstBits }, 0, 32},
		{func(r *impl.Rule) *int64 { return &r.Proto }, -1, 255},
		{func(r *impl.Rule) *int64 { return &r.Low }, 0, 65535},
		{func(r *impl.Rule) *int64 { return &r.High }, 0, 65535},
		{func(r *impl.Rule) *int64 { return &r.Class }, 0, 15},
	}
}

// openRule matches every right frame.
func openRule(id int64) impl.Rule {
	return impl.Rule{Id: id, Proto: -1, High: 65535, Class: 7}
}

// closeRule matches someFrame, and asks for each of its four numbers alone.
func closeRule(id int64) impl.Rule {
	f := someFrame(0, "")
	return impl.Rule{
		Id: id, Prio: 50, SrcNet: f.Src, SrcBits: 32, DstNet: f.Dst, DstBits: 32,
		Proto: f.Proto, Low: f.DPort, High: f.DPort, Class: 9,
	}
}

// withNets is a rule with other nets.
func withNets(r impl.Rule, src, srcBits, dst, dstBits int64) impl.Rule {
	r.SrcNet, r.SrcBits, r.DstNet, r.DstBits = src, srcBits, dst, dstBits
	return r
}

// numbered are copies of one rule with Ids from the given one on.
func numbered(r impl.Rule, from, n int64) []impl.Rule {
	var list []impl.Rule
	for i := range n {
		r.Id = from + i
		list = append(list, r)
	}
	return list
}

// rightRules have each edge of each field.
func rightRules() []impl.Rule {
	list := []impl.Rule{
		openRule(1), openRule(999), closeRule(1), closeRule(999),
		// A zero of everything but Id.
		{Id: 1},
		{Id: 999, Prio: 99, SrcNet: mostAddr, SrcBits: 32, DstNet: mostAddr, DstBits: 32, Proto: 255, Low: 65535, High: 65535, Class: 15},
	}
	for _, field := range ruleFields() {
		for _, n := range []int64{field.least, field.least + 1, (field.least + field.greatest) / 2, field.greatest - 1, field.greatest} {
			r := withNets(openRule(5), 0, 32, 0, 32)
			*field.of(&r) = n
			list = append(list, r)
		}
	}
	for _, route := range rightRoutes() {
		list = append(list, withNets(openRule(8), route.Net, route.Bits, 0, 0), withNets(closeRule(8), 0, 0, route.Net, route.Bits))
	}
	return list
}

// wrongRules are each wrong in one thing, and two in all.
func wrongRules() []impl.Rule {
	var list []impl.Rule
	least, greatest := impl.Rule{}, impl.Rule{}
	for _, field := range ruleFields() {
		for _, n := range []int64{field.least - 1, field.least - 2, field.greatest + 1, field.greatest + 2, 1<<32 + field.greatest, 1<<40 + 1, 1 << 32, -1 << 32, math.MinInt64, math.MinInt64 + 1, math.MaxInt64 - 1, math.MaxInt64} {
			for _, r := range []impl.Rule{withNets(openRule(5), 0, 32, 0, 32), closeRule(5)} {
				*field.of(&r) = n
				list = append(list, r)
			}
		}
		*field.of(&least) = math.MinInt64
		*field.of(&greatest) = math.MaxInt64
	}
	for _, route := range wrongRoutes() {
		if within(route.Hop, 0, 99) {
			list = append(list, withNets(openRule(5), route.Net, route.Bits, 0, 0), withNets(openRule(5), 0, 0, route.Net, route.Bits))
		}
	}
	for _, ports := range [][2]int64{{1, 0}, {65535, 0}, {65535, 65534}, {101, 100}, {-1, 5}, {-1, -1}, {65536, 65536}, {0, 65536}, {-5, 70000}, {math.MaxInt64, math.MaxInt64}, {math.MinInt64, math.MinInt64}, {math.MinInt64, math.MaxInt64}, {math.MaxInt64, math.MinInt64}} {
		r := openRule(5)
		r.Low, r.High = ports[0], ports[1]
		list = append(list, r)
	}
	return append(list, least, greatest)
}

func rightRuleByText(r impl.Rule) bool {
	return within(r.Id, 1, 999) && within(r.Prio, 0, 99) && within(r.Proto, -1, 255) &&
		within(r.Low, 0, r.High) && within(r.High, 0, 65535) && within(r.Class, 0, 15) &&
		rightRouteByText(impl.Route{Net: r.SrcNet, Bits: r.SrcBits}) &&
		rightRouteByText(impl.Route{Net: r.DstNet, Bits: r.DstBits})
}

func rightRulesByText(list []impl.Rule) bool {
	for i, r := range list {
		if !rightRuleByText(r) || i > 0 && list[i-1].Id >= r.Id {
			return false
		}
	}
	return len(list) <= 40
}

// matchesByText is of right rules and right frames only.
func matchesByText(r impl.Rule, f impl.Frame) bool {
	return strings.HasPrefix(bitText(f.Src), bitText(r.SrcNet)[:r.SrcBits]) &&
		strings.HasPrefix(bitText(f.Dst), bitText(r.DstNet)[:r.DstBits]) &&
		(r.Proto == -1 || r.Proto == f.Proto) && within(f.DPort, r.Low, r.High)
}

func ruleAhead(a, b impl.Rule) bool {
	return a.Prio > b.Prio || a.Prio == b.Prio && a.Id < b.Id
}

// classBySearch goes through the whole list and is of right ones only.
func classBySearch(list []impl.Rule, f impl.Frame) int64 {
	best := impl.Rule{Prio: -1}
	for _, r := range list {
		if matchesByText(r, f) && ruleAhead(r, best) {
			best = r
		}
	}
	return best.Class
}

func shapesBySearch(list []impl.Rule) []int64 {
	var shapes []int64
	for shape := range int64(33 * 33) {
		if slices.ContainsFunc(list, func(r impl.Rule) bool { return r.SrcBits == shape/33 && r.DstBits == shape%33 }) {
			shapes = append(shapes, shape)
		}
	}
	return shapes
}

// cornersOf are frames of which each is one that a rule matches, at all ends
// of its nets and ports: what holds both ends of a net or of ports holds what
// lies between. Of Protos there is more than one where any goes.
func cornersOf(r impl.Rule) []impl.Frame {
	protos := []int64{r.Proto}
	if r.Proto == -1 {
		protos = []int64{0, 1, 254, 255}
	}
	var list []impl.Frame
	for _, src := range []int64{r.SrcNet, lastOf(impl.Route{Net: r.SrcNet, Bits: r.SrcBits})} {
		for _, dst := range []int64{r.DstNet, lastOf(impl.Route{Net: r.DstNet, Bits: r.DstBits})} {
			for _, port := range []int64{r.Low, r.High} {
				for _, proto := range protos {
					list = append(list, impl.Frame{Src: src, Dst: dst, Proto: proto, DPort: port})
				}
			}
		}
	}
	return list
}

// widerByFrames is of right rules only.
func widerByFrames(a, b impl.Rule) bool {
	return !slices.ContainsFunc(cornersOf(b), func(f impl.Frame) bool { return !matchesByText(a, f) })
}

func idleBySearch(list []impl.Rule) []int64 {
	var ids []int64
	for _, r := range list {
		for _, a := range list {
			if ruleAhead(a, r) && widerByFrames(a, r) {
				ids = append(ids, r.Id)
				break
			}
		}
	}
	return ids
}

// besides are the frames at and beside all ends of a right rule.
func besides(r impl.Rule) []impl.Frame {
	list := cornersOf(r)
	for _, f := range cornersOf(r) {
		for _, by := range []int64{-1, 1} {
			src, dst, proto, port := f, f, f, f
			src.Src = min(max(f.Src+by, 0), mostAddr)
			dst.Dst = min(max(f.Dst+by, 0), mostAddr)
			proto.Proto = min(max(f.Proto+by, 0), 255)
			port.DPort = min(max(f.DPort+by, 0), 65535)
			list = append(list, src, dst, proto, port)
		}
	}
	return list
}

func matchesIs(t *testing.T, r impl.Rule, f impl.Frame, want bool) {
	t.Helper()
	if got := impl.Matches(r, f); got != want {
		t.Fatalf("Matches(%+v, %+v) = %t", r, f, got)
	}
}

func classIs(t *testing.T, list []impl.Rule, f impl.Frame, want int64) {
	t.Helper()
	if got := impl.ClassOf(list, f); got != want {
		t.Fatalf("ClassOf(%+v, %+v) = %d, not %d", list, f, got, want)
	}
}

func widerIs(t *testing.T, a, b impl.Rule, want bool) {
	t.Helper()
	if got := impl.Wider(a, b); got != want {
		t.Fatalf("Wider(%+v, %+v) = %t", a, b, got)
	}
}

func shapesAre(t *testing.T, list []impl.Rule, want ...int64) {
	t.Helper()
	if got := impl.Shapes(list); !slices.Equal(got, want) {
		t.Fatalf("Shapes(%+v) = %v, not %v", list, got, want)
	}
}

func idleAre(t *testing.T, list []impl.Rule, want ...int64) {
	t.Helper()
	if got := impl.Idle(list); !slices.Equal(got, want) {
		t.Fatalf("Idle(%+v) = %v, not %v", list, got, want)
	}
}

func rightRuleLists() [][]impl.Rule {
	lists := [][]impl.Rule{
		nil, {},
		{openRule(1), closeRule(999)},
		{closeRule(1), openRule(2), openRule(998), closeRule(999)},
		numbered(openRule(1), 1, 39), numbered(openRule(1), 1, 40), numbered(closeRule(1), 960, 40),
	}
	for _, r := range rightRules() {
		lists = append(lists, []impl.Rule{r})
	}
	return lists
}

func wrongRuleLists() [][]impl.Rule {
	lists := [][]impl.Rule{
		{openRule(2), openRule(1)},
		{openRule(999), closeRule(1)},
		{openRule(1), openRule(1)},
		{openRule(999), closeRule(999)},
		{openRule(1), openRule(2), closeRule(2), openRule(3)},
		{openRule(1), openRule(3), closeRule(2)},
		numbered(openRule(1), 1, 41), numbered(openRule(1), 1, 42), numbered(closeRule(1), 1, 80), numbered(openRule(1), 1, 999),
		make([]impl.Rule, 1), make([]impl.Rule, 41),
	}
	full := numbered(openRule(1), 3, 40)
	for i := range full[1:] {
		swapped, twice := slices.Clone(full), slices.Clone(full)
		swapped[i], swapped[i+1] = swapped[i+1], swapped[i]
		twice[i+1] = twice[i]
		lists = append(lists, swapped, twice)
	}
	for _, r := range wrongRules() {
		lists = append(lists,
			[]impl.Rule{r},
			[]impl.Rule{openRule(1), r},
			[]impl.Rule{r, openRule(999)},
			[]impl.Rule{openRule(1), r, openRule(999)})
	}
	return lists
}

func TestRulesOk(t *testing.T) {
	for _, list := range rightRuleLists() {
		if !impl.RulesOk(list) || !rightRulesByText(list) {
			t.Errorf("RulesOk(%+v) is false", list)
		}
	}
	for _, list := range wrongRuleLists() {
		if impl.RulesOk(list) || rightRulesByText(list) {
			t.Errorf("RulesOk(%+v) is true", list)
		}
	}
}

// A list with something wrong in it answers so whatever is asked of it.
func TestRulesOfWrongLists(t *testing.T) {
	for _, list := range wrongRuleLists() {
		for _, f := range []impl.Frame{{}, someFrame(2, "body"), {Proto: 256}} {
			classIs(t, list, f, -1)
		}
		shapesAre(t, list)
		idleAre(t, list)
	}
}

func TestMatchesByHand(t *testing.T) {
	f := impl.Frame{Src: 0x0a010203, Dst: 0xc0a80105, Proto: 6, SPort: 443, DPort: 80}
	bySrc, byDst, byProto, byPort := openRule(1), openRule(1), openRule(1), openRule(1)
	bySrc.SrcNet, bySrc.SrcBits = 0x0a000000, 8
	byDst.DstNet, byDst.DstBits = 0xc0a80100, 24
	byProto.Proto = 6
	byPort.Low, byPort.High = 70, 90
	all := impl.Rule{Id: 1, SrcNet: 0x0a000000, SrcBits: 8, DstNet: 0xc0a80100, DstBits: 24, Proto: 6, Low: 70, High: 90}
	for _, r := range []impl.Rule{openRule(1), bySrc, byDst, byProto, byPort, all} {
		matchesIs(t, r, f, true)
	}
	src, dst, proto, port := f, f, f, f
	src.Src, dst.Dst, proto.Proto, port.DPort = 0x0b010203, 0xc0a80205, 17, 91
	for _, c := range []struct {
		other impl.Frame
		by    impl.Rule
	}{{src, bySrc}, {dst, byDst}, {proto, byProto}, {port, byPort}} {
		for _, r := range []impl.Rule{openRule(1), bySrc, byDst, byProto, byPort} {
			matchesIs(t, r, c.other, r != c.by)
		}
		matchesIs(t, all, c.other, false)
	}
	// Src and Dst are not taken for each other, nor SPort for DPort.
	turned := f
	turned.Src, turned.Dst = f.Dst, f.Src
	matchesIs(t, bySrc, turned, false)
	matchesIs(t, byDst, turned, false)
	turned = f
	turned.SPort, turned.DPort = f.DPort, f.SPort
	matchesIs(t, byPort, turned, false)
}

// DPort at Low and at High and one beside each, also where both are one.
func TestMatchesAtThePorts(t *testing.T) {
	for _, ports := range [][2]int64{{0, 65535}, {0, 0}, {65535, 65535}, {80, 80}, {1, 65534}, {80, 90}, {79, 80}} {
		r := openRule(1)
		r.Low, r.High = ports[0], ports[1]
		for _, port := range []int64{0, 1, 65534, 65535, r.Low - 1, r.Low, r.Low + 1, r.High - 1, r.High, r.High + 1} {
			matchesIs(t, r, impl.Frame{DPort: port}, within(port, 0, 65535) && within(port, r.Low, r.High))
		}
	}
}

func TestMatchesEachProto(t *testing.T) {
	for want := int64(-1); want <= 255; want++ {
		r := openRule(1)
		r.Proto = want
		for proto := int64(-2); proto <= 257; proto++ {
			matchesIs(t, r, impl.Frame{Proto: proto}, within(proto, 0, 255) && (want == -1 || want == proto))
		}
	}
}

// Each right rule at and beside all its ends, and at all right frames, some of
// which are the same but for fields that no rule asks for.
func TestMatchesByText(t *testing.T) {
	for _, r := range rightRules() {
		for _, f := range append(besides(r), rightFrames()...) {
			matchesIs(t, r, f, matchesByText(r, f))
		}
	}
	for _, f := range rightFrames() {
		matchesIs(t, openRule(1), f, true)
		classIs(t, []impl.Rule{openRule(1)}, f, 7)
		classIs(t, nil, f, 0)
	}
}

func TestMatchesOfWrong(t *testing.T) {
	for _, r := range wrongRules() {
		for _, f := range []impl.Frame{{}, someFrame(0, ""), {Src: mostAddr, Dst: mostAddr, Proto: 255, DPort: 65535}} {
			matchesIs(t, r, f, false)
		}
		// A frame that is wrong as the rule is matches it no more.
		matchesIs(t, r, impl.Frame{Src: r.SrcNet, Dst: r.DstNet, Proto: r.Proto, DPort: r.Low}, false)
	}
	for _, f := range wrongFrames() {
		for _, r := range []impl.Rule{openRule(1), closeRule(1), {Id: 1}} {
			matchesIs(t, r, f, false)
			classIs(t, []impl.Rule{r}, f, -1)
		}
		classIs(t, nil, f, -1)
		classIs(t, numbered(openRule(1), 1, 40), f, -1)
		classIs(t, numbered(openRule(1), 1, 41), f, -1)
	}
}

func TestClassOfByHand(t *testing.T) {
	f := someFrame(1, "body")
	rule := func(id, prio, class int64) impl.Rule {
		r := openRule(id)
		r.Prio, r.Class = prio, class
		return r
	}
	off := func(id, prio, class int64) impl.Rule {
		r := rule(id, prio, class)
		r.Proto = f.Proto + 1
		return r
	}
	for _, c := range []struct {
		list []impl.Rule
		want int64
	}{
		{nil, 0},
		{[]impl.Rule{rule(1, 0, 15)}, 15},
		{[]impl.Rule{rule(999, 99, 0)}, 0},
		{[]impl.Rule{off(1, 99, 15)}, 0},
		// The greater Prio goes ahead, wherever it stands.
		{[]impl.Rule{rule(1, 1, 4), rule(2, 2, 5)}, 5},
		{[]impl.Rule{rule(1, 2, 4), rule(2, 1, 5)}, 4},
		{[]impl.Rule{rule(1, 0, 4), rule(500, 99, 5), rule(999, 98, 6)}, 5},
		// Of one Prio the least Id, whatever the Class.
		{[]impl.Rule{rule(1, 2, 4), rule(2, 2, 5)}, 4},
		{[]impl.Rule{rule(1, 2, 5), rule(2, 2, 4)}, 5},
		{[]impl.Rule{rule(1, 0, 1), rule(2, 7, 2), rule(3, 7, 3), rule(4, 7, 4), rule(5, 6, 5)}, 2},
		{[]impl.Rule{rule(1, 0, 0), rule(2, 0, 3)}, 0},
		// What goes ahead and does not match says nothing.
		{[]impl.Rule{off(1, 9, 4), rule(2, 2, 5)}, 5},
		{[]impl.Rule{off(1, 9, 4), rule(2, 2, 5), off(3, 99, 6), rule(4, 3, 7)}, 7},
		{[]impl.Rule{off(1, 9, 4), off(2, 2, 5), off(3, 99, 6)}, 0},
		{numbered(rule(1, 9, 12), 960, 40), 12},
	} {
		classIs(t, c.list, f, c.want)
	}
}

func TestShapesByHand(t *testing.T) {
	shape := func(id, src, dst int64) impl.Rule { return withNets(openRule(id), 0, src, 0, dst) }
	shapesAre(t, nil)
	shapesAre(t, []impl.Rule{shape(1, 0, 0)}, 0)
	shapesAre(t, []impl.Rule{shape(1, 0, 32)}, 32)
	shapesAre(t, []impl.Rule{shape(1, 1, 0)}, 33)
	shapesAre(t, []impl.Rule{shape(1, 32, 0)}, 1056)
	shapesAre(t, []impl.Rule{shape(999, 32, 32)}, 1088)
	shapesAre(t, []impl.Rule{shape(1, 8, 24), shape(2, 24, 8)}, 288, 800)
	shapesAre(t, []impl.Rule{shape(1, 24, 8), shape(2, 8, 24)}, 288, 800)
	shapesAre(t, []impl.Rule{shape(1, 24, 8), shape(2, 8, 24), shape(3, 24, 8), shape(4, 8, 24)}, 288, 800)
	shapesAre(t, []impl.Rule{shape(1, 32, 32), shape(2, 1, 0), shape(3, 0, 32), shape(4, 0, 0), shape(5, 1, 0)}, 0, 32, 33, 1088)
	shapesAre(t, numbered(shape(1, 16, 9), 1, 40), 537)
	// The nets themselves are no part of a shape.
	shapesAre(t, []impl.Rule{withNets(openRule(1), 1<<31, 1, 0, 1), withNets(closeRule(2), 0, 1, 1<<31, 1)}, 34)
}

// 40 of them falling: they come out rising.
func TestShapesOfAllBits(t *testing.T) {
	for first := int64(0); first < 33*33; first += 17 {
		var list []impl.Rule
		for i := range int64(40) {
			shape := (first + 33*33 - i*29%(33*33)) % (33 * 33)
			list = append(list, withNets(openRule(i+1), 0, shape/33, 0, shape%33))
		}
		want := shapesBySearch(list)
		if len(want) < 30 {
			t.Fatal("too few", want)
		}
		shapesAre(t, list, want...)
	}
}

func TestWiderByHand(t *testing.T) {
	narrow := closeRule(1)
	widerIs(t, narrow, narrow, true)
	widerIs(t, openRule(1), narrow, true)
	widerIs(t, narrow, openRule(1), false)
	for _, c := range []struct {
		name  string
		widen func(r *impl.Rule)
	}{
		{"SrcBits", func(r *impl.Rule) { r.SrcBits, r.SrcNet = 31, r.SrcNet&^1 }},
		{"no SrcBits", func(r *impl.Rule) { r.SrcBits, r.SrcNet = 0, 0 }},
		{"DstBits", func(r *impl.Rule) { r.DstBits, r.DstNet = 31, r.DstNet&^1 }},
		{"no DstBits", func(r *impl.Rule) { r.DstBits, r.DstNet = 0, 0 }},
		{"Proto", func(r *impl.Rule) { r.Proto = -1 }},
		{"Low", func(r *impl.Rule) { r.Low-- }},
		{"High", func(r *impl.Rule) { r.High++ }},
		{"both ports", func(r *impl.Rule) { r.Low, r.High = 0, 65535 }},
	} {
		wide := narrow
		c.widen(&wide)
		widerIs(t, wide, narrow, true)
		widerIs(t, narrow, wide, false)
		widerIs(t, wide, wide, true)
		widerIs(t, openRule(1), wide, true)
	}
	for _, aside := range []func(r *impl.Rule){
		func(r *impl.Rule) { r.SrcNet ^= 1 },
		func(r *impl.Rule) { r.SrcNet ^= 1 << 31 },
		func(r *impl.Rule) { r.DstNet ^= 1 },
		func(r *impl.Rule) { r.DstNet ^= 1 << 31 },
		func(r *impl.Rule) { r.Proto++ },
		func(r *impl.Rule) { r.Low, r.High = r.Low+1, r.High+1 },
	} {
		other := narrow
		aside(&other)
		widerIs(t, other, narrow, false)
		widerIs(t, narrow, other, false)
	}
	// Id, Prio and Class are no part of it: two are wider than each other.
	other := narrow
	other.Id, other.Prio, other.Class = 999, 0, 15
	widerIs(t, other, narrow, true)
	widerIs(t, narrow, other, true)
	// Ports that lie across each other, and a wider part with a narrower one.
	a, b := openRule(1), openRule(2)
	a.Low, a.High, b.Low, b.High = 10, 20, 15, 25
	widerIs(t, a, b, false)
	widerIs(t, b, a, false)
	a, b = openRule(1), openRule(2)
	a.SrcBits, b.DstBits = 1, 1
	widerIs(t, a, b, false)
	widerIs(t, b, a, false)
	// Proto 0 is not any.
	a, b = openRule(1), openRule(2)
	a.Proto, b.Proto = 0, 255
	widerIs(t, a, b, false)
	widerIs(t, a, openRule(2), false)
	widerIs(t, openRule(1), a, true)
}

func TestWiderOfWrong(t *testing.T) {
	for _, r := range wrongRules() {
		widerIs(t, r, r, false)
		for _, right := range []impl.Rule{openRule(1), closeRule(1), {Id: 1}} {
			widerIs(t, r, right, false)
			widerIs(t, right, r, false)
		}
	}
}

func TestWiderByFrames(t *testing.T) {
	var rules []impl.Rule
	for i, r := range rightRules() {
		if i < 60 || i%7 == 0 {
			rules = append(rules, r)
		}
	}
	for _, a := range rules {
		for _, b := range rules {
			widerIs(t, a, b, widerByFrames(a, b))
		}
	}
}

// smallRules are all with nets of four addresses and less, three Protos and
// three ports.
func smallRules(net int64) []impl.Rule {
	var list []impl.Rule
	nets := []impl.Route{{Net: net, Bits: 30}, {Net: net, Bits: 31}, {Net: net + 2, Bits: 31}}
	for i := range int64(4) {
		nets = append(nets, impl.Route{Net: net + i, Bits: 32})
	}
	for _, src := range nets {
		for _, dst := range nets {
			for _, proto := range []int64{-1, 0, 255} {
				for low := range int64(3) {
					for high := low; high < 3; high++ {
						list = append(list, impl.Rule{Id: 1, SrcNet: src.Net, SrcBits: src.Bits, DstNet: dst.Net, DstBits: dst.Bits, Proto: proto, Low: low, High: high})
					}
				}
			}
		}
	}
	return list
}

// Of all small rules it is told which of all small frames they match, and of
// each two of them whether the one matches all that the other does.
func TestWiderOfAllSmall(t *testing.T) {
	const net = 0xa5a5a5a4
	var frames []impl.Frame
	for i := range int64(4 * 4 * 2 * 3) {
		frames = append(frames, impl.Frame{Src: net + i%4, Dst: net + i/4%4, Proto: i / 16 % 2 * 255, DPort: i / 32})
	}
	rules := smallRules(net)
	matched := make([][2]uint64, len(rules))
	for n, r := range rules {
		for i, f := range frames {
			matchesIs(t, r, f, matchesByText(r, f))
			if matchesByText(r, f) {
				matched[n][i/64] |= 1 << (i % 64)
			}
		}
	}
	for i, a := range rules {
		for j, b := range rules {
			want := matched[j][0]&^matched[i][0] == 0 && matched[j][1]&^matched[i][1] == 0
			widerIs(t, a, b, want)
		}
	}
}

func TestIdleByHand(t *testing.T) {
	at := func(r impl.Rule, id, prio int64) impl.Rule {
		r.Id, r.Prio = id, prio
		return r
	}
	open, narrow := openRule(1), closeRule(1)
	half := withNets(open, 0, 1, 0, 0)
	idleAre(t, nil)
	idleAre(t, []impl.Rule{at(open, 1, 0)})
	// Behind one that is wider: by Prio, by Id.
	idleAre(t, []impl.Rule{at(open, 1, 5), at(narrow, 2, 4)}, 2)
	idleAre(t, []impl.Rule{at(narrow, 1, 4), at(open, 2, 5)}, 1)
	idleAre(t, []impl.Rule{at(open, 1, 5), at(narrow, 2, 5)}, 2)
	idleAre(t, []impl.Rule{at(open, 1, 0), at(narrow, 2, 0)}, 2)
	idleAre(t, []impl.Rule{at(narrow, 1, 98), at(open, 999, 99)}, 1)
	// Wider, but behind: by Prio, by Id.
	idleAre(t, []impl.Rule{at(open, 1, 4), at(narrow, 2, 5)})
	idleAre(t, []impl.Rule{at(narrow, 1, 5), at(open, 2, 5)})
	// Ahead, but no wider.
	idleAre(t, []impl.Rule{at(half, 1, 5), at(open, 2, 4)})
	idleAre(t, []impl.Rule{at(narrow, 1, 9), at(half, 2, 8)})
	// Two that are wider than each other: the one that goes behind, with
	// another Class or not.
	idleAre(t, []impl.Rule{at(narrow, 1, 5), at(narrow, 2, 5)}, 2)
	idleAre(t, []impl.Rule{at(narrow, 1, 5), at(narrow, 2, 6)}, 1)
	other := at(narrow, 2, 6)
	other.Class = 0
	idleAre(t, []impl.Rule{at(narrow, 1, 5), other}, 1)
	// One that is idle itself makes others idle; what is beside stays.
	aside := withNets(open, 1<<31, 1, 0, 0)
	idleAre(t, []impl.Rule{at(narrow, 1, 1), at(half, 2, 2), at(open, 3, 3)}, 1, 2)
	idleAre(t, []impl.Rule{at(half, 10, 2), at(aside, 20, 2), at(half, 30, 1), at(aside, 40, 1)}, 30, 40)
	// Two that together match all that a third does: neither is wider.
	idleAre(t, []impl.Rule{at(half, 1, 9), at(aside, 2, 9), at(open, 3, 1)})
	// Of 40 alike all but one.
	var rest []int64
	for id := int64(961); id <= 999; id++ {
		rest = append(rest, id)
	}
	idleAre(t, numbered(open, 960, 40), rest...)
	last := numbered(open, 1, 40)
	last[39].Prio = 1
	rest = nil
	for id := int64(1); id <= 39; id++ {
		rest = append(rest, id)
	}
	idleAre(t, last, rest...)
}

// rule lies among few nets, Protos and ports, so that many lie in each other.
func (d *drawer) rule(id, prios int64) impl.Rule {
	addrs := []int64{0, mostAddr, 0xaaaaaaaa, 0xaaaaaaab, 1 << 31}
	counts := []int64{0, 0, 1, 2, 31, 32}
	srcBits, dstBits := counts[d.below(6)], counts[d.below(6)]
	ports := []int64{0, 0, 1, 80, 65534, 65535, 65535}
	low := d.below(7)
	high := low + d.below(7-low)
	return impl.Rule{
		Id: id, Prio: d.below(prios),
		SrcNet: netOf(addrs[d.below(5)], srcBits), SrcBits: srcBits,
		DstNet: netOf(addrs[d.below(5)], dstBits), DstBits: dstBits,
		Proto: []int64{-1, -1, 0, 6, 255}[d.below(5)],
		Low:   ports[low], High: ports[high],
		Class: d.below(16),
	}
}

func (d *drawer) rules(n, prios int64) []impl.Rule {
	var list []impl.Rule
	for i := range n {
		list = append(list, d.rule(1+i*25%999+d.below(25), prios))
	}
	slices.SortFunc(list, func(a, b impl.Rule) int { return int(a.Id - b.Id) })
	return slices.CompactFunc(list, func(a, b impl.Rule) bool { return a.Id == b.Id })
}

// Drawn lists against the plain words. Without its idle ones a list says what
// it said, and whatever Class an idle one is given, nobody hears it.
func TestDrawnRules(t *testing.T) {
	draw := &drawer{2463534242}
	quiet := 0
	for round := range int64(300) {
		list := draw.rules(round%41, []int64{1, 2, 5, 100}[round%4])
		if !impl.RulesOk(list) {
			t.Fatalf("RulesOk(%+v) is false", list)
		}
		idle := idleBySearch(list)
		quiet += len(idle)
		idleAre(t, list, idle...)
		shapesAre(t, list, shapesBySearch(list)...)
		var busy, changed []impl.Rule
		for _, r := range list {
			if slices.Contains(idle, r.Id) {
				r.Class = 15 - r.Class
			} else {
				busy = append(busy, r)
			}
			changed = append(changed, r)
		}
		idleAre(t, busy)
		for _, r := range list {
			for i, f := range besides(r) {
				if int64(i)%31 != round%31 {
					continue
				}
				want := classBySearch(list, f)
				classIs(t, list, f, want)
				classIs(t, busy, f, want)
				classIs(t, changed, f, want)
			}
		}
	}
	if quiet < 500 {
		t.Fatal("too few idle ones:", quiet)
	}
}

// Each argument stays with the spare room behind it, and what an answer is
// made into is seen in no argument and in no other answer.
func TestRuleArgumentsStay(t *testing.T) {
	spare := impl.Rule{Id: -7, Proto: -7}
	draw := &drawer{99}
	lists := append(rightRuleLists(), wrongRuleLists()[:60]...)
	for n := range int64(41) {
		lists = append(lists, draw.rules(n, 3))
	}
	for _, list := range lists {
		ahead := append(slices.Clone(list), spare, spare, spare)
		room := slices.Clone(ahead)
		arg := room[:len(list)]
		tags := []int64{258, 4095, 7, 8}
		for _, f := range []impl.Frame{{Tags: tags[:2]}, {Tags: tags[:3]}, {Tags: tags[:1], Proto: 6, DPort: 80}} {
			impl.RulesOk(arg)
			impl.ClassOf(arg, f)
			impl.Matches(openRule(1), f)
			for _, ask := range []func([]impl.Rule) []int64{impl.Shapes, impl.Idle} {
				answer := ask(arg)
				want := slices.Clone(answer)
				again := ask(arg)
				whole := again[:cap(again)]
				for i := range whole {
					whole[i] = -1
				}
				if !slices.Equal(answer, want) || !slices.Equal(ask(arg), want) {
					t.Fatalf("%v, not %v", answer, want)
				}
			}
			if !slices.Equal(room, ahead) || !slices.Equal(tags, []int64{258, 4095, 7, 8}) {
				t.Fatalf("%+v, not %+v; %v", room, ahead, tags)
			}
		}
	}
}
