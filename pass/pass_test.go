package pass

import (
	"fmt"
	"math"
	"math/rand"
	"reflect"
	"runtime/debug"
	"slices"
	"strconv"
	"strings"
	"testing"

	"letterlock/api"
	"letterlock/graph"
	"letterlock/vals"
)

// far are numbers of which nothing is, some of which are a thing's number in their low bits.
var far = []int{
	math.MinInt, math.MinInt + 1, math.MinInt + 4, -1 << 32, -256, -2,
	256, 1 << 32, 1<<32 + 2, 1 << 62, math.MaxInt - 1, math.MaxInt,
}

func num(n int64) api.Val             { return api.Val{Kind: api.VInt, N: n} }
func ability(n int) api.Val           { return api.Val{Kind: api.VCap, N: int64(n)} }
func gate(n int) api.Val              { return api.Val{Kind: api.VGate, N: int64(n)} }
func pair(a, b api.Val) api.Val       { return api.Val{Kind: api.VPair, L: []api.Val{a, b}} }
func seal(n int64, v api.Val) api.Val { return api.Val{Kind: api.VSeal, N: n, L: []api.Val{v}} }

func inPairs(depth int, v api.Val) api.Val {
	for range depth {
		v = pair(v, api.Val{})
	}
	return v
}

func inRightPairs(depth int, v api.Val) api.Val {
	for range depth {
		v = pair(api.Val{}, v)
	}
	return v
}

func inSeals(depth int, v api.Val) api.Val {
	for range depth {
		v = seal(1, v)
	}
	return v
}

// row tells a value with these in it, from the left, each in one pair more than that ahead of it.
func row(first api.Val, others ...api.Val) api.Val {
	if len(others) == 0 {
		return first
	}
	return pair(first, row(others[0], others[1:]...))
}

// doubled tells a thing of which every list stands in memory once, and is there twice as often as that around it.
func doubled(depth int, v api.Val) api.Val {
	for range depth {
		v = pair(v, v)
	}
	return v
}

// inSelf tells a pair that is in itself, beside another thing.
func inSelf(v api.Val) api.Val {
	l := []api.Val{v, {Kind: api.VPair}}
	l[1].L = l
	return l[1]
}

// sealedInSelf tells a seal on itself.
func sealedInSelf() api.Val {
	l := []api.Val{{Kind: api.VSeal}}
	l[0].L = l
	return l[0]
}

// places tells values in which a thing stands at every kind of place.
func places(v api.Val) []api.Val {
	return []api.Val{
		v, seal(0, v), seal(math.MaxInt64, v), pair(v, num(1)), pair(num(1), v), pair(seal(2, v), api.Val{}), seal(2, pair(num(-7), v)),
		row(num(1), num(2), num(3), v, num(4)), inSeals(api.MaxValue-1, v), inPairs(api.MaxValue/2-1, v), inRightPairs(api.MaxValue/2-1, v),
	}
}

// The capabilities of the graph that start tells.
var (
	goodCaps = []int{0, 2, 4, 9, 10, 12}
	badCaps  = []int{1, 3, 5, 6, 7, 8, 11}
)

const (
	startGates = 4
	startNodes = 13
)

// start tells a graph with the gates 0 to 3, of which 3 was cut, and capabilities of every kind.
func start(t *testing.T) *graph.Graph {
	t.Helper()
	g := graph.New()
	for range startGates {
		g.Gate()
	}
	made := func(_, code int) {
		t.Helper()
		if code != 0 {
			t.Fatalf("the graph has no more room: %d", code)
		}
	}
	made(g.Cell(1, api.RRead|api.RPass, -1))
	made(g.Cell(2, api.RAll&^api.RPass, -1))
	made(g.Func(3, 5, api.RPass|api.RAsk, -1))
	made(g.Func(0, 0, api.RAsk, -1))
	made(g.Derive(0, api.RAll, 0))
	made(g.Derive(0, api.RAll&^api.RPass, -1))
	made(g.Derive(1, api.RAll, 1))
	made(g.Derive(2, api.RAll, 3))
	made(g.Derive(7, api.RAll, -1))
	made(g.Derive(4, api.RPass, 1))
	made(g.Cell(0, api.RPass, -1))
	made(g.Cell(3, api.RAll, 3))
	made(g.Func(1, 2, api.RAll, 2))
	g.Cut(3)
	return g
}

// roomFor tells a graph as start does, in which so many capabilities more may be made.
func roomFor(t *testing.T, more int) *graph.Graph {
	t.Helper()
	g := start(t)
	for len(g.Nodes()) < api.MaxNodes-more {
		g.Cell(11, 0, -1)
	}
	return g
}

func wantMay(t *testing.T, g *graph.Graph, v api.Val, want int) {
	t.Helper()
	before := g.Nodes()
	if code := May(g, v); code != want {
		t.Errorf("May of %.200s: %d, want %d", fmt.Sprint(v), code, want)
	}
	if !slices.Equal(g.Nodes(), before) {
		t.Errorf("May of %.200s made something", fmt.Sprint(v))
	}
}

// from tells a capability that comes from another one, as Across is to make it.
func from(parent, gate int) api.Node {
	return api.Node{Parent: parent, Gate: gate, Rights: api.RAll, Plugin: -1}
}

// wantAcross tells what is to arrive, and which capabilities there are to be more.
func wantAcross(t *testing.T, g *graph.Graph, v api.Val, gates []int, want api.Val, more ...api.Node) {
	t.Helper()
	before := g.Nodes()
	out, code := Across(g, v, gates)
	if code != 0 || !vals.Same(out, want) {
		t.Errorf("Across of %s through %v: %s, %d, want %s", vals.Text(v), gates, vals.Text(out), code, vals.Text(want))
	}
	wantMore(t, g, before, more...)
}

// wantRefused tells which code is to be told, and which capabilities there are to be more nevertheless.
func wantRefused(t *testing.T, g *graph.Graph, v api.Val, gates []int, want int, more ...api.Node) {
	t.Helper()
	before := g.Nodes()
	out, code := Across(g, v, gates)
	if code != want {
		t.Errorf("Across of %.200s through %v: %d, want %d", fmt.Sprint(v), gates, code, want)
	}
	if !reflect.DeepEqual(out, api.Val{}) {
		t.Errorf("Across of %.200s through %v: there is a value beside the code", fmt.Sprint(v), gates)
	}
	wantMore(t, g, before, more...)
}

func wantMore(t *testing.T, g *graph.Graph, before []api.Node, more ...api.Node) {
	t.Helper()
	if got, want := g.Nodes(), append(before, more...); !slices.Equal(got, want) {
		t.Errorf("%d capabilities, %v behind those that were there, want %v", len(got), got[min(len(got), len(before)):], more)
	}
}

// plainValues have neither capabilities nor gates in them, though some have their numbers.
func plainValues() []api.Val {
	return []api.Val{
		{}, {L: []api.Val{}}, num(0), num(1), num(-1), num(api.VCap), num(api.VGate), num(math.MinInt64), num(math.MaxInt64),
		{Kind: api.VInt, N: 3, L: make([]api.Val, 0, 3)},
		pair(api.Val{}, api.Val{}), pair(num(1), num(2)), pair(pair(num(1), num(2)), pair(num(3), api.Val{})),
		seal(0, api.Val{}), seal(api.VCap, num(5)), seal(api.VGate, num(4)), seal(math.MaxInt64, pair(num(1), seal(0, num(2)))),
		inSeals(api.MaxValue-1, num(1)), inPairs(api.MaxValue/2-1, num(1)), seal(3, inPairs(api.MaxValue/2-1, num(1))), doubled(4, num(6)),
	}
}

func TestMayOfPlainValues(t *testing.T) {
	for _, v := range plainValues() {
		wantMay(t, graph.New(), v, 0)
		wantMay(t, start(t), v, 0)
		wantMay(t, roomFor(t, 0), v, 0)
	}
}

func TestMayOfCapabilities(t *testing.T) {
	g := start(t)
	for _, n := range goodCaps {
		for _, v := range places(ability(n)) {
			wantMay(t, g, v, 0)
		}
	}
	for _, n := range badCaps {
		for _, v := range places(ability(n)) {
			wantMay(t, g, v, api.ErrRight)
		}
	}
}

func TestMayAsksForOneRightAlone(t *testing.T) {
	for r := range api.RAll + 1 {
		want := api.ErrRight
		if r >= 12 || r >= 4 && r < 8 {
			want = 0
		}
		g := graph.New()
		g.Cell(0, r, -1)
		g.Func(0, 0, r, -1)
		g.Cell(0, api.RAll, -1)
		g.Derive(2, r, -1)
		g.Derive(0, api.RAll, -1)
		for n, want := range []int{want, want, 0, want, want} {
			wantMay(t, g, ability(n), want)
			wantMay(t, g, pair(ability(2), seal(1, ability(n))), want)
		}
	}
}

// All must have the right, wherever they stand.
func TestMayOfSeveralCapabilities(t *testing.T) {
	g := start(t)
	for _, a := range goodCaps {
		for _, b := range goodCaps {
			wantMay(t, g, pair(ability(a), ability(b)), 0)
			wantMay(t, g, seal(1, pair(ability(a), seal(2, ability(b)))), 0)
		}
		for _, b := range badCaps {
			wantMay(t, g, pair(ability(a), ability(b)), api.ErrRight)
			wantMay(t, g, pair(ability(b), ability(a)), api.ErrRight)
			wantMay(t, g, row(ability(a), ability(a), seal(1, ability(b)), ability(a)), api.ErrRight)
			wantMay(t, g, pair(doubled(3, ability(a)), pair(doubled(2, ability(a)), ability(b))), api.ErrRight)
		}
	}
	wantMay(t, g, doubled(4, ability(0)), 0)
	wantMay(t, g, doubled(4, ability(1)), api.ErrRight)
	wantMay(t, g, row(ability(0), ability(2), ability(4), ability(9), ability(10), ability(12)), 0)
}

func TestMayOfCapabilitiesThatAreNotThere(t *testing.T) {
	g, most := start(t), roomFor(t, 0)
	for _, n := range append([]int{startNodes, startNodes + 1, api.MaxNodes, api.MaxNodes + 1}, far...) {
		want := api.ErrRight
		if n < 0 {
			want = api.ErrRange
		}
		for _, v := range places(ability(n)) {
			wantMay(t, g, v, want)
			wantMay(t, graph.New(), v, want)
			wantRefused(t, g, v, nil, want)
			wantRefused(t, g, v, []int{0}, want)
		}
		if n >= api.MaxNodes || n < 0 {
			wantMay(t, most, ability(n), want)
		}
		wantMay(t, g, pair(ability(0), ability(n)), want)
		wantMay(t, g, pair(ability(n), ability(0)), want)
	}
	wantMay(t, graph.New(), ability(0), api.ErrRight)
}

// Whether a gate is there, or is open, is not asked: none may be handed on.
func TestMayOfGates(t *testing.T) {
	g := start(t)
	for _, k := range []int{0, 1, 3, startGates, api.MaxGates, 1 << 32, math.MaxInt} {
		for _, v := range places(gate(k)) {
			wantMay(t, g, v, api.ErrRight)
			wantMay(t, graph.New(), v, api.ErrRight)
			wantRefused(t, g, v, nil, api.ErrRight)
			wantRefused(t, g, v, []int{1, 2}, api.ErrRight)
		}
		for _, n := range append(slices.Clone(goodCaps), badCaps...) {
			wantMay(t, g, pair(ability(n), gate(k)), api.ErrRight)
			wantMay(t, g, pair(seal(1, gate(k)), ability(n)), api.ErrRight)
		}
	}
}

// A capability has the right no longer, when a gate on its way is cut.
func TestMayWhenAGateIsCut(t *testing.T) {
	g := start(t)
	wantMay(t, g, pair(ability(4), ability(9)), 0)
	g.Cut(1)
	wantMay(t, g, ability(4), 0)
	wantMay(t, g, ability(9), api.ErrRight)
	wantMay(t, g, pair(ability(4), ability(9)), api.ErrRight)
	g.Cut(0)
	wantMay(t, g, ability(4), api.ErrRight)
	wantMay(t, g, ability(0), 0)
	wantMay(t, g, ability(12), 0)
}

// noValues are things that are no values, and why; many have also in them what may not be handed on.
func noValues() map[int][]api.Val {
	return map[int][]api.Val{
		api.ErrMany: {
			inSeals(api.MaxValue, num(1)), inPairs(api.MaxValue/2, ability(0)), inPairs(api.MaxValue/2, gate(0)), inSeals(api.MaxValue, ability(1)),
			pair(ability(-1), inSeals(50, num(1))), pair(api.Val{Kind: 9}, inSeals(50, ability(1))), doubled(5, ability(0)), doubled(100, gate(0)),
			{Kind: api.VCap, L: make([]api.Val, api.MaxValue)}, {Kind: 77, L: make([]api.Val, 10000)},
			inSelf(num(1)), inSelf(ability(0)), inSelf(ability(1)), inSelf(gate(0)), sealedInSelf(),
		},
		api.ErrKind: {
			{Kind: -1}, {Kind: api.VGate + 1}, {Kind: 256 + api.VCap}, {Kind: 1<<32 + api.VInt}, {Kind: math.MinInt}, {Kind: math.MaxInt, N: -1},
			pair(ability(1), api.Val{Kind: 6}), pair(gate(0), api.Val{Kind: 6}), pair(api.Val{Kind: 6}, ability(-1)), seal(1, api.Val{Kind: 6, N: 3}),
			row(ability(0), ability(99), api.Val{Kind: -5, L: []api.Val{{N: 1}}}), inSeals(api.MaxValue-1, api.Val{Kind: 8}),
		},
		api.ErrForm: {
			{N: 1}, {N: -1}, {Kind: api.VPair}, {Kind: api.VPair, L: make([]api.Val, 1)}, {Kind: api.VPair, L: make([]api.Val, 3)},
			{Kind: api.VPair, N: 1, L: make([]api.Val, 2)}, {Kind: api.VSeal}, {Kind: api.VSeal, N: -1}, {Kind: api.VSeal, L: []api.Val{ability(0), ability(0)}},
			{Kind: api.VCap, L: make([]api.Val, 1)}, {Kind: api.VCap, N: -1, L: make([]api.Val, 1)}, {Kind: api.VCap, N: 1, L: []api.Val{ability(0)}},
			{Kind: api.VGate, L: make([]api.Val, 1)}, {Kind: api.VInt, L: make([]api.Val, 2)},
			pair(gate(0), api.Val{N: 1}), pair(ability(1), api.Val{Kind: api.VSeal}), pair(api.Val{N: 1}, api.Val{Kind: 6}),
		},
		api.ErrRange: {
			ability(-1), gate(-1), seal(-1, num(1)), ability(math.MinInt), gate(math.MinInt), seal(math.MinInt64, ability(0)),
			pair(ability(1), ability(-1)), pair(gate(0), gate(-1)), pair(gate(0), ability(-1)), seal(-1, gate(0)), seal(-1, api.Val{Kind: 6}),
			pair(ability(-1), api.Val{Kind: 6}), row(ability(0), ability(99), seal(1, seal(-5, num(1)))),
		},
	}
}

// Why a thing is no value is told ahead of what may not be handed on, and ahead of what is wrong with the gates.
func TestNoValues(t *testing.T) {
	g, most := start(t), roomFor(t, 0)
	for want, things := range noValues() {
		for _, v := range things {
			wantMay(t, g, v, want)
			wantMay(t, graph.New(), v, want)
			for _, gates := range [][]int{nil, {}, {0}, {-1}, {3, 2}, {99}, {-2}} {
				wantRefused(t, g, v, gates, want)
				wantRefused(t, most, v, gates, want)
			}
		}
	}
}

// What may not be handed on makes nothing, also where others that may stand ahead of it; and it is told ahead of what is wrong with the gates.
func TestAcrossAsksFirst(t *testing.T) {
	g, most := start(t), roomFor(t, 0)
	for _, gates := range [][]int{nil, {}, {0}, {1, 2, 0}, {-1}, {3}, {99}, {-2}, {math.MinInt}, {0, math.MaxInt}} {
		for _, v := range []api.Val{
			ability(1), gate(0), pair(ability(0), gate(1)), pair(ability(0), ability(5)), row(ability(0), ability(2), seal(1, ability(99))),
			row(ability(12), ability(10), ability(9), ability(4), ability(8)), pair(doubled(3, ability(0)), seal(1, gate(5))),
		} {
			wantRefused(t, g, v, gates, api.ErrRight)
			wantRefused(t, most, v, gates, api.ErrRight)
		}
	}
}

// Where no capability is, nothing goes through the gates: so it is all the same which they are.
func TestAcrossOfPlainValues(t *testing.T) {
	for _, v := range plainValues() {
		for _, g := range []*graph.Graph{graph.New(), start(t), roomFor(t, 0)} {
			for _, gates := range append([][]int{nil, {}, {0}, {0, 1, 2}, {3}, {-1}, {startGates, 0}, make([]int, 1000)}, far) {
				wantAcross(t, g, v, gates, v)
			}
		}
	}
}

func TestAcrossWithoutGates(t *testing.T) {
	for _, g := range []*graph.Graph{start(t), roomFor(t, 0)} {
		for _, gates := range [][]int{nil, {}, make([]int, 0, 4)} {
			for _, n := range goodCaps {
				for _, v := range places(ability(n)) {
					wantAcross(t, g, v, gates, v)
				}
			}
			for _, v := range []api.Val{doubled(4, ability(0)), pair(ability(4), pair(seal(1, ability(2)), ability(4)))} {
				wantAcross(t, g, v, gates, v)
			}
			wantRefused(t, g, ability(1), gates, api.ErrRight)
			wantRefused(t, g, gate(1), gates, api.ErrRight)
		}
	}
}

func TestAcrossOneGate(t *testing.T) {
	for _, n := range goodCaps {
		for k := range startGates {
			before, after := places(ability(n)), places(ability(startNodes))
			for i := range before {
				wantAcross(t, start(t), before[i], []int{k}, after[i], from(n, k))
			}
		}
	}
}

func TestAcrossSeveralGates(t *testing.T) {
	g := start(t)
	wantAcross(t, g, ability(2), []int{1, 0, 2}, ability(15), from(2, 1), from(13, 0), from(14, 2))
	if got := g.Gates(15); !slices.Equal(got, []int{2, 0, 1}) {
		t.Errorf("it goes through %v", got)
	}
	if target, ok := g.Target(15); !ok || target != g.Nodes()[2] {
		t.Errorf("it is of %v", target)
	}
	// What arrived is handed on again, through the same gates.
	wantAcross(t, g, seal(0, ability(15)), []int{1, 0}, seal(0, ability(17)), from(15, 1), from(16, 0))
	if got := g.Gates(17); !slices.Equal(got, []int{0, 1, 2, 0, 1}) {
		t.Errorf("it goes through %v", got)
	}
	if g.Rights(17) != api.RPass|api.RAsk {
		t.Errorf("it has the rights %d", g.Rights(17))
	}
	g.Cut(2)
	wantMay(t, g, ability(17), api.ErrRight)
	wantMay(t, g, ability(14), 0)
}

func TestAcrossSameGateTwice(t *testing.T) {
	g := start(t)
	wantAcross(t, g, ability(4), []int{0, 0, 1, 0}, ability(16), from(4, 0), from(13, 0), from(14, 1), from(15, 0))
	if got := g.Gates(16); !slices.Equal(got, []int{0, 1, 0, 0, 0}) {
		t.Errorf("it goes through %v", got)
	}
}

// Each one goes through all gates ahead of the next one, and each is made anew, also where one is there twice.
func TestAcrossFromTheLeft(t *testing.T) {
	wantAcross(t, start(t), pair(ability(2), ability(0)), []int{1, 2}, pair(ability(14), ability(16)),
		from(2, 1), from(13, 2), from(0, 1), from(15, 2))
	wantAcross(t, start(t), pair(ability(0), ability(0)), []int{2}, pair(ability(13), ability(14)), from(0, 2), from(0, 2))
	wantAcross(t, start(t), pair(ability(4), seal(2, pair(ability(0), ability(4)))), []int{0, 1},
		pair(ability(14), seal(2, pair(ability(16), ability(18)))),
		from(4, 0), from(13, 1), from(0, 0), from(15, 1), from(4, 0), from(17, 1))
	wantAcross(t, start(t), pair(pair(ability(12), ability(10)), pair(num(9), pair(seal(1, ability(9)), ability(12)))), []int{2},
		pair(pair(ability(13), ability(14)), pair(num(9), pair(seal(1, ability(15)), ability(16)))),
		from(12, 2), from(10, 2), from(9, 2), from(12, 2))
	wantAcross(t, start(t), pair(pair(pair(ability(0), ability(2)), ability(4)), ability(9)), []int{0},
		pair(pair(pair(ability(13), ability(14)), ability(15)), ability(16)),
		from(0, 0), from(2, 0), from(4, 0), from(9, 0))
}

func TestAcrossOfAsManyAsMayBe(t *testing.T) {
	const many = api.MaxValue / 2
	g := graph.New()
	g.Gate()
	g.Cell(5, api.RAll, -1)
	var before, after []api.Val
	var more []api.Node
	for i := range many {
		before = append(before, ability(0))
		after = append(after, ability(3*i+3))
		more = append(more, from(0, 0), from(3*i+1, -1), from(3*i+2, 0))
	}
	wantAcross(t, g, row(before[0], before[1:]...), []int{0, -1, 0}, row(after[0], after[1:]...), more...)
}

func TestAcrossKeepsWhatIsNoCapability(t *testing.T) {
	v := pair(seal(0, pair(num(0), ability(0))), row(api.Val{}, num(math.MinInt64), seal(math.MaxInt64, ability(0)), num(13), seal(4, api.Val{})))
	want := pair(seal(0, pair(num(0), ability(13))), row(api.Val{}, num(math.MinInt64), seal(math.MaxInt64, ability(14)), num(13), seal(4, api.Val{})))
	wantAcross(t, start(t), v, []int{1}, want, from(0, 1), from(0, 1))
}

// A capability more there is also where it goes through no gate.
func TestAcrossThroughNone(t *testing.T) {
	wantAcross(t, start(t), ability(0), []int{-1}, ability(13), from(0, -1))
	wantAcross(t, start(t), pair(ability(0), ability(2)), []int{-1, -1}, pair(ability(14), ability(16)),
		from(0, -1), from(13, -1), from(2, -1), from(15, -1))
	g := start(t)
	wantAcross(t, g, ability(4), []int{1, -1, 2}, ability(15), from(4, 1), from(13, -1), from(14, 2))
	if got := g.Gates(15); !slices.Equal(got, []int{2, 1, 0}) {
		t.Errorf("it goes through %v", got)
	}
}

// What goes through a gate that was cut arrives, but without any right; and so does what comes behind it.
func TestAcrossThroughACutGate(t *testing.T) {
	g := start(t)
	wantAcross(t, g, pair(ability(0), ability(0)), []int{0, 3, 1}, pair(ability(15), ability(18)),
		from(0, 0), from(13, 3), from(14, 1), from(0, 0), from(16, 3), from(17, 1))
	for n, want := range map[int]int{0: 5, 13: 5, 14: 0, 15: 0, 16: 5, 17: 0, 18: 0} {
		if got := g.Rights(n); got != want {
			t.Errorf("%d has the rights %d, want %d", n, got, want)
		}
	}
	wantRefused(t, g, ability(15), nil, api.ErrRight)
	wantRefused(t, g, ability(18), []int{0}, api.ErrRight)
}

// With all rights at each step, nothing is lost and nothing is won.
func TestAcrossKeepsRights(t *testing.T) {
	for _, r := range []int{4, 5, 6, 7, 12, 13, 14, 15} {
		g := graph.New()
		g.Gate()
		g.Cell(0, r, -1)
		g.Func(1, 1, r, -1)
		wantAcross(t, g, pair(ability(0), ability(1)), []int{0, 0}, pair(ability(3), ability(5)), from(0, 0), from(2, 0), from(1, 0), from(4, 0))
		for n := range 6 {
			if g.Rights(n) != r {
				t.Errorf("%d has the rights %d, want %d", n, g.Rights(n), r)
			}
		}
		g.Cut(0)
		if g.Rights(0) != r || g.Rights(1) != r || g.Rights(2)|g.Rights(3)|g.Rights(4)|g.Rights(5) != 0 {
			t.Errorf("rights %d: not all behind the gate is cut", r)
		}
	}
}

func TestAcrossThroughGatesThatAreNotThere(t *testing.T) {
	for _, k := range append([]int{startGates, startGates + 1, api.MaxGates, api.MaxGates + 1}, far...) {
		both := pair(ability(0), ability(2))
		wantRefused(t, start(t), both, []int{k}, api.ErrNone)
		wantRefused(t, start(t), both, []int{k, 0}, api.ErrNone)
		wantRefused(t, start(t), both, []int{0, k}, api.ErrNone, from(0, 0))
		wantRefused(t, start(t), both, []int{1, 2, k, 0}, api.ErrNone, from(0, 1), from(13, 2))
		wantRefused(t, start(t), both, []int{-1, 3, k}, api.ErrNone, from(0, -1), from(13, 3))
		wantRefused(t, start(t), seal(1, pair(num(1), ability(4))), []int{0, k}, api.ErrNone, from(4, 0))
	}
	g := graph.New()
	g.Cell(0, api.RAll, -1)
	wantRefused(t, g, ability(0), []int{0}, api.ErrNone)
	wantAcross(t, g, ability(0), []int{-1}, ability(1), from(0, -1))
}

// The graph is full at every place on the way, and just not.
func TestAcrossWhenTheGraphIsFull(t *testing.T) {
	v := pair(ability(0), seal(1, ability(2)))
	for room := range 7 {
		g := roomFor(t, room)
		n := api.MaxNodes - room
		all := []api.Node{from(0, 0), from(n, 1), from(n+1, 2), from(2, 0), from(n+3, 1), from(n+4, 2)}
		if room < len(all) {
			wantRefused(t, g, v, []int{0, 1, 2}, api.ErrFull, all[:room]...)
		} else {
			wantAcross(t, g, v, []int{0, 1, 2}, pair(ability(n+2), seal(1, ability(n+5))), all...)
		}
		// Now it is full, whatever is asked.
		wantRefused(t, g, ability(0), []int{0}, api.ErrFull)
		wantRefused(t, g, ability(0), []int{-1}, api.ErrFull)
		wantAcross(t, g, v, nil, v)
		wantAcross(t, g, num(5), []int{0}, num(5))
	}
}

// Which gates there are is looked at ahead of how full the graph is, as Derive does it.
func TestAcrossFullAndWithoutTheGate(t *testing.T) {
	wantRefused(t, roomFor(t, 0), ability(0), []int{startGates}, api.ErrNone)
	wantRefused(t, roomFor(t, 0), ability(0), []int{0, startGates}, api.ErrFull)
	wantRefused(t, roomFor(t, 1), ability(0), []int{0, startGates}, api.ErrNone, from(0, 0))
	wantRefused(t, roomFor(t, 1), pair(ability(0), ability(0)), []int{0, 1, startGates}, api.ErrFull, from(0, 0))
	wantRefused(t, roomFor(t, 1), pair(ability(0), ability(2)), []int{-1}, api.ErrFull, from(0, -1))
}

// However many gates there are, the graph is full at some time.
func TestAcrossManyGates(t *testing.T) {
	g := start(t)
	var more []api.Node
	for n := startNodes; n < api.MaxNodes; n++ {
		more = append(more, from(n-1, 0))
	}
	more[0].Parent = 4
	wantRefused(t, g, seal(1, ability(4)), make([]int, 1<<20), api.ErrFull, more...)

	g = start(t)
	wantAcross(t, g, ability(4), make([]int, api.MaxNodes-startNodes), ability(api.MaxNodes-1), more...)
}

func TestListsThatAreEmpty(t *testing.T) {
	without, with := ability(0), ability(0)
	with.L = make([]api.Val, 0, 5)
	empty := []int{}
	a, codeA := Across(start(t), pair(without, num(1)), []int{1})
	b, codeB := Across(start(t), pair(with, api.Val{Kind: api.VInt, N: 1, L: []api.Val{}}), []int{1})
	if codeA != 0 || codeB != 0 || !vals.Same(a, b) {
		t.Errorf("%v, %d and %v, %d", a, codeA, b, codeB)
	}
	wantMay(t, start(t), with, 0)
	wantAcross(t, start(t), with, nil, without)
	wantAcross(t, start(t), with, empty, without)
	wantAcross(t, start(t), without, empty, with)
	for _, kind := range []int{api.VPair, api.VSeal} {
		wantMay(t, start(t), api.Val{Kind: kind}, api.ErrForm)
		wantMay(t, start(t), api.Val{Kind: kind, L: []api.Val{}}, api.ErrForm)
	}
}

// What lies behind a list's length is neither read nor written.
func TestBehindTheLength(t *testing.T) {
	gates := []int{0, 1, 99, 2}
	parts := []api.Val{ability(0), ability(2), gate(1), ability(-1)}
	wantMay(t, start(t), api.Val{Kind: api.VPair, L: parts[:2]}, 0)
	wantAcross(t, start(t), api.Val{Kind: api.VPair, L: parts[:2]}, gates[:2], pair(ability(14), ability(16)),
		from(0, 0), from(13, 1), from(2, 0), from(15, 1))
	wantAcross(t, start(t), api.Val{Kind: api.VPair, L: parts[:2]}, gates[:0], pair(ability(0), ability(2)))
	wantAcross(t, start(t), api.Val{Kind: api.VCap, L: parts[:0]}, gates[3:], ability(13), from(0, 2))
	if !slices.Equal(gates, []int{0, 1, 99, 2}) || !reflect.DeepEqual(parts, []api.Val{ability(0), ability(2), gate(1), ability(-1)}) {
		t.Errorf("%v, %v", gates, parts)
	}
}

// memory tells where all elements of all lists of a thing lie, with those behind the lists' lengths.
func memory(v api.Val) []*api.Val {
	var all []*api.Val
	l := v.L[:cap(v.L)]
	for i := range l {
		all = append(all, &l[i])
		if i < len(v.L) {
			all = append(all, memory(l[i])...)
		}
	}
	return all
}

// sharing are values with lists that lie in memory at once, or have memory behind them.
func sharing() []api.Val {
	both := pair(ability(0), seal(2, ability(2)))
	one := []api.Val{ability(4), ability(9), ability(0)}
	return []api.Val{
		both, pair(both, both), seal(1, pair(both, pair(both, num(1)))), doubled(4, ability(0)), doubled(4, num(1)), doubled(2, both),
		pair(api.Val{Kind: api.VPair, L: one[:2]}, api.Val{Kind: api.VPair, L: one[1:]}),
		pair(api.Val{Kind: api.VSeal, L: one[1:2]}, api.Val{Kind: api.VPair, L: one[:2]}),
		{Kind: api.VCap, L: one[:0]}, {L: one[:0]}, {Kind: api.VInt, N: 5, L: one[1:1]}, seal(3, api.Val{Kind: api.VCap, N: 2, L: one[:0]}),
		pair(api.Val{L: one[:0]}, api.Val{L: one[:0]}), ability(0), pair(num(1), api.Val{}),
	}
}

func TestAcrossAnswersNewMemory(t *testing.T) {
	for i, v := range sharing() {
		for _, gates := range [][]int{nil, {1}, {0, -1}} {
			given := memory(v)
			out, code := Across(start(t), v, gates)
			if code != 0 {
				t.Fatalf("%d: %d", i, code)
			}
			met := make(map[*api.Val]bool)
			for _, p := range memory(out) {
				if met[p] {
					t.Errorf("%d: two lists of the answer share memory", i)
				}
				met[p] = true
			}
			for _, p := range given {
				if met[p] {
					t.Errorf("%d: the answer shares memory with what was handed in", i)
				}
			}
		}
	}
}

// twin makes a thing anew, with what lies behind its lists' lengths.
func twin(v api.Val) api.Val {
	if v.L == nil {
		return v
	}
	l := slices.Clone(v.L[:cap(v.L)])[:len(v.L)]
	for i := range l {
		l[i] = twin(l[i])
	}
	v.L = l
	return v
}

func behind(v api.Val) []api.Val {
	var all []api.Val
	for _, p := range memory(v) {
		all = append(all, *p)
	}
	return all
}

func TestWhatIsHandedInStays(t *testing.T) {
	others := []api.Val{pair(ability(0), ability(1)), pair(ability(0), gate(1)), ability(99), ability(-1), {Kind: 7, L: []api.Val{num(1)}}}
	for i, v := range append(sharing(), others...) {
		for _, gates := range [][]int{nil, {1}, {0, 3, -1}, {2, 99}} {
			before, gatesBefore := twin(v), slices.Clone(gates)
			lies := behind(v)
			g := start(t)
			May(g, v)
			Across(g, v, gates)
			if !reflect.DeepEqual(v, before) || !reflect.DeepEqual(behind(v), lies) || !slices.Equal(gates, gatesBefore) {
				t.Errorf("%d, through %v: what was handed in changed", i, gates)
			}
		}
	}
}

// Neither what was handed in nor what was answered is kept: either may be changed afterwards.
func TestNothingIsKept(t *testing.T) {
	g := start(t)
	v, gates := pair(ability(0), seal(2, ability(2))), []int{0, 1}
	out, _ := Across(g, v, gates)
	nodes := g.Nodes()
	v.L[0], v.L[1].L[0], gates[0], gates[1] = gate(1), num(9), 99, 98
	if want := pair(ability(14), seal(2, ability(16))); !vals.Same(out, want) {
		t.Errorf("what was answered changed: %v", out)
	}
	out.L[0], out.L[1].L[0] = num(1), num(2)
	if want := pair(gate(1), seal(2, num(9))); !vals.Same(v, want) {
		t.Errorf("what was handed in changed: %v", v)
	}
	if !slices.Equal(g.Nodes(), nodes) {
		t.Error("the graph changed")
	}
	wantAcross(t, g, pair(ability(0), seal(2, ability(2))), []int{0, 1}, pair(ability(18), seal(2, ability(20))),
		from(0, 0), from(17, 1), from(2, 0), from(19, 1))
}

// Gates that are not named, and those that are, are open or cut as before.
func TestGatesStay(t *testing.T) {
	g := start(t)
	Across(g, pair(ability(0), ability(2)), []int{0, 3, 1})
	Across(g, ability(0), []int{2, 99})
	for k, want := range []bool{true, true, true, false} {
		if !g.Has(k) || g.Open(k) != want {
			t.Errorf("gate %d: %v, %v", k, g.Has(k), g.Open(k))
		}
	}
	if g.Has(startGates) {
		t.Error("there is a gate more")
	}
}

// Things that are very deep or very wide, where calls can't be as deep.
func TestEnds(t *testing.T) {
	before := debug.SetMaxStack(1 << 20)
	defer debug.SetMaxStack(before)
	const deep = 300000
	g := start(t)
	for _, v := range []api.Val{
		inSeals(deep, ability(0)), inPairs(deep, gate(0)), inRightPairs(deep, ability(1)), doubled(300, ability(0)),
		inSelf(ability(0)), sealedInSelf(), {Kind: api.VPair, L: make([]api.Val, deep)},
	} {
		if code := May(g, v); code != api.ErrMany {
			t.Errorf("May: %d, want %d", code, api.ErrMany)
		}
		out, code := Across(g, v, []int{0, 1})
		if code != api.ErrMany || !reflect.DeepEqual(out, api.Val{}) {
			t.Errorf("Across: %d, want %d", code, api.ErrMany)
		}
	}
	if len(g.Nodes()) != startNodes {
		t.Error("something was made")
	}
}

// model finds out in another way what is handed on: of a capability it knows rights and gates from its making on, and a value it takes as its text.
type model struct {
	nodes  []api.Node
	meet   []int
	behind [][]int
	cut    []bool
}

func (m *model) add(n api.Node) {
	meet, behind := n.Rights, []int(nil)
	if n.Parent >= 0 {
		meet &= m.meet[n.Parent]
		behind = slices.Clone(m.behind[n.Parent])
	}
	if n.Gate >= 0 {
		behind = append(behind, n.Gate)
	}
	m.nodes, m.meet, m.behind = append(m.nodes, n), append(m.meet, meet), append(m.behind, behind)
}

func (m *model) passes(node int) bool {
	if node >= len(m.nodes) || m.meet[node]&4 == 0 {
		return false
	}
	return !slices.ContainsFunc(m.behind[node], func(k int) bool { return m.cut[k] })
}

// abilities parts a text behind each #: then each piece but the first one begins with a number.
func abilities(text string) (pieces []string, nodes []int) {
	for i, piece := range strings.Split(text, "#") {
		if i > 0 {
			end := len(piece) - len(strings.TrimLeft(piece, "0123456789"))
			n, _ := strconv.Atoi(piece[:end])
			piece, nodes = piece[end:], append(nodes, n)
		}
		pieces = append(pieces, piece)
	}
	return pieces, nodes
}

func (m *model) may(v api.Val) int {
	if code := vals.Check(v); code != 0 {
		return code
	}
	text := vals.Text(v)
	_, nodes := abilities(text)
	if strings.Contains(text, "!") || slices.ContainsFunc(nodes, func(n int) bool { return !m.passes(n) }) {
		return api.ErrRight
	}
	return 0
}

// across tells the text of what arrives; with a code it is empty.
func (m *model) across(v api.Val, gates []int) (string, int) {
	if code := m.may(v); code != 0 {
		return "", code
	}
	pieces, nodes := abilities(vals.Text(v))
	text := pieces[0]
	for i, n := range nodes {
		for _, k := range gates {
			if k < -1 || k >= len(m.cut) {
				return "", api.ErrNone
			}
			if len(m.nodes) == api.MaxNodes {
				return "", api.ErrFull
			}
			m.add(from(n, k))
			n = len(m.nodes) - 1
		}
		text += "#" + strconv.Itoa(n) + pieces[i+1]
	}
	return text, 0
}

// random tells a value of so many parts, with capabilities of which most are below n; seldom it is none.
func random(r *rand.Rand, parts, n int) api.Val {
	switch {
	case parts == 1 && r.Intn(100) == 0:
		return []api.Val{gate(r.Intn(3)), ability(r.Intn(100)), ability(-1), {Kind: 6}, {N: 1}, {Kind: api.VSeal}}[r.Intn(6)]
	case parts == 1 && n > 0 && r.Intn(2) == 0:
		return ability(r.Intn(n))
	case parts == 1:
		return []api.Val{{}, num(r.Int63n(9) - 4)}[r.Intn(2)]
	case parts == 2 || r.Intn(4) == 0:
		return seal(r.Int63n(4), random(r, parts-1, n))
	}
	left := 1 + r.Intn(parts-2)
	return pair(random(r, left, n), random(r, parts-1-left, n))
}

// randomGates tells some gates, of which most are there.
func randomGates(r *rand.Rand, there int) []int {
	var gates []int
	for range r.Intn(4) {
		k := r.Intn(there+1) - 1
		if r.Intn(20) == 0 {
			k = []int{-2, there, math.MaxInt, math.MinInt}[r.Intn(4)]
		}
		gates = append(gates, k)
	}
	return gates
}

// grow makes a gate or a capability, or cuts a gate, in the model and in all graphs.
func (m *model) grow(r *rand.Rand, graphs []*graph.Graph) {
	k, right := r.Intn(len(m.cut)+1)-1, api.RAll&^(r.Intn(16)&r.Intn(16)&r.Intn(16))
	cell, plugin, f := r.Intn(api.MaxCells), r.Intn(api.MaxPlugins), r.Intn(api.MaxFuncs)
	var do func(g *graph.Graph)
	switch kind := r.Intn(8); {
	case kind == 0 && len(m.cut) < api.MaxGates:
		m.cut = append(m.cut, false)
		do = func(g *graph.Graph) { g.Gate() }
	case kind == 1 && k >= 0 && r.Intn(4) == 0:
		m.cut[k] = true
		do = func(g *graph.Graph) { g.Cut(k) }
	case len(m.nodes) == api.MaxNodes:
		return
	case kind < 5:
		m.add(api.Node{Parent: -1, Gate: k, Rights: right, Cell: cell, Plugin: -1})
		do = func(g *graph.Graph) { g.Cell(cell, right, k) }
	default:
		m.add(api.Node{Parent: -1, Gate: k, Rights: right, Plugin: plugin, Func: f})
		do = func(g *graph.Graph) { g.Func(plugin, f, right, k) }
	}
	for _, g := range graphs {
		do(g)
	}
}

// Graphs of which the same is asked answer the same, and as the model does.
func TestManySteps(t *testing.T) {
	codes := make(map[int]int)
	for seed := range int64(1500) {
		r, m, graphs := rand.New(rand.NewSource(seed)), &model{}, []*graph.Graph{graph.New(), graph.New()}
		for range 40 {
			m.grow(r, graphs)
			v, gates := random(r, 1+r.Intn(1+r.Intn(12)), len(m.nodes)), randomGates(r, len(m.cut))
			wantCode := m.may(v)
			ahead := len(m.nodes)
			wantText, wantAcrossCode := m.across(v, gates)
			codes[wantAcrossCode]++
			if wantAcrossCode != 0 && len(m.nodes) > ahead {
				codes[-1]++
			}
			for i, g := range graphs {
				code := May(g, v)
				out, acrossCode := Across(g, v, gates)
				text := vals.Text(out)
				if acrossCode != 0 && reflect.DeepEqual(out, api.Val{}) {
					text = ""
				}
				if code != wantCode || acrossCode != wantAcrossCode || text != wantText || !slices.Equal(g.Nodes(), m.nodes) {
					t.Fatalf("seed %d, graph %d, %v through %v: %d; %q, %d, want %d; %q, %d", seed, i, v, gates, code, text, acrossCode, wantCode, wantText, wantAcrossCode)
				}
			}
		}
	}
	for _, code := range []int{0, -1, api.ErrRange, api.ErrKind, api.ErrForm, api.ErrRight, api.ErrNone, api.ErrFull} {
		if codes[code] < 50 {
			t.Errorf("%d came only %d times", code, codes[code])
		}
	}
}
