package graph

import (
	"math"
	"math/rand"
	"slices"
	"testing"

	"letterlock/api"
)

// far are numbers of which nothing is, some of which are a thing's number in their low bits.
var far = []int{
	math.MinInt, math.MinInt + 1, -1 << 32, -256, -2,
	256, 1 << 32, 1<<32 + 1, math.MaxInt - 1, math.MaxInt,
}

// noRights are numbers that are no rights; some of them have bits of rights, and some have no others among their low ones.
var noRights = append([]int{-1, -api.RAll, api.RAll + 1, api.RAll + 2, 31}, far...)

// outside are numbers of which none is below n: just outside, and far outside.
func outside(n int) []int {
	return append([]int{-1, n, n + 1}, far...)
}

// full tells a graph in which there are as many gates and capabilities as there may be.
func full(t *testing.T) *Graph {
	t.Helper()
	g := New()
	for k := range api.MaxGates {
		wantGate(t, g, k)
	}
	for n := range api.MaxNodes {
		wantMade(t, "Cell")(n, 0)(g.Cell(n%api.MaxCells, n%(api.RAll+1), n%api.MaxGates))
	}
	return g
}

// wantMade holds a number and a code against what a call answered.
func wantMade(t *testing.T, what string) func(n, code int) func(int, int) {
	return func(n, code int) func(int, int) {
		return func(gotN, gotCode int) {
			t.Helper()
			if gotN != n || gotCode != code {
				t.Errorf("%s: %d, %d, want %d, %d", what, gotN, gotCode, n, code)
			}
		}
	}
}

func wantGate(t *testing.T, g *Graph, want int) {
	t.Helper()
	wantMade(t, "Gate")(want, 0)(g.Gate())
}

func wantCell(t *testing.T, g *Graph, cell, r, gate, want int) {
	t.Helper()
	wantMade(t, "Cell")(want, 0)(g.Cell(cell, r, gate))
}

func wantFunc(t *testing.T, g *Graph, plugin, f, r, gate, want int) {
	t.Helper()
	wantMade(t, "Func")(want, 0)(g.Func(plugin, f, r, gate))
}

func wantDerive(t *testing.T, g *Graph, parent, r, gate, want int) {
	t.Helper()
	wantMade(t, "Derive")(want, 0)(g.Derive(parent, r, gate))
}

func wantCut(t *testing.T, g *Graph, gate, want int) {
	t.Helper()
	if code := g.Cut(gate); code != want {
		t.Errorf("Cut(%d) = %d, want %d", gate, code, want)
	}
}

// wantOpen tells of each gate whether it is to be open; there are to be no others.
func wantOpen(t *testing.T, g *Graph, open ...bool) {
	t.Helper()
	for k, want := range open {
		if !g.Has(k) {
			t.Errorf("Has(%d) is false", k)
		}
		if g.Open(k) != want {
			t.Errorf("Open(%d) = %v", k, !want)
		}
	}
	for _, k := range outside(len(open)) {
		if g.Has(k) {
			t.Errorf("Has(%d) is true: there are %d gates", k, len(open))
		}
		if g.Open(k) {
			t.Errorf("Open(%d) is true: there are %d gates", k, len(open))
		}
	}
}

// wantRights tells of each capability which rights it is to have; there are to be no others.
func wantRights(t *testing.T, g *Graph, want ...int) {
	t.Helper()
	for n, r := range want {
		if got := g.Rights(n); got != r {
			t.Errorf("Rights(%d) = %d, want %d", n, got, r)
		}
	}
	for _, n := range outside(len(want)) {
		if got := g.Rights(n); got != 0 {
			t.Errorf("Rights(%d) = %d: there are %d capabilities", n, got, len(want))
		}
	}
}

func wantNodes(t *testing.T, g *Graph, want ...api.Node) {
	t.Helper()
	if got := g.Nodes(); !slices.Equal(got, want) {
		t.Errorf("Nodes() = %v, want %v", got, want)
	}
}

func wantGates(t *testing.T, g *Graph, node int, want ...int) {
	t.Helper()
	if got := g.Gates(node); !slices.Equal(got, want) {
		t.Errorf("Gates(%d) = %v, want %v", node, got, want)
	}
}

func wantTarget(t *testing.T, g *Graph, node int, want api.Node) {
	t.Helper()
	if got, ok := g.Target(node); got != want || !ok {
		t.Errorf("Target(%d) = %v, %v, want %v, true", node, got, ok, want)
	}
}

// wantAbsent: of a capability that is not there nothing is told.
func wantAbsent(t *testing.T, g *Graph, node int) {
	t.Helper()
	wantGates(t, g, node)
	if r := g.Rights(node); r != 0 {
		t.Errorf("Rights(%d) = %d, want 0", node, r)
	}
	if got, ok := g.Target(node); got != (api.Node{}) || ok {
		t.Errorf("Target(%d) = %v, %v, want zero, false", node, got, ok)
	}
}

// ways makes a graph in which way lies beside way: the capability 5 goes through the gates 2, 0 and 1.
func ways(t *testing.T) *Graph {
	t.Helper()
	g := New()
	for k := range 4 {
		wantGate(t, g, k)
	}
	wantCell(t, g, 7, 15, 1, 0)
	wantFunc(t, g, 3, 5, 12, -1, 1)
	wantDerive(t, g, 0, 7, 0, 2)
	wantDerive(t, g, 2, 14, -1, 3)
	wantDerive(t, g, 1, 11, 3, 4)
	wantDerive(t, g, 3, 15, 2, 5)
	wantDerive(t, g, 3, 1, -1, 6)
	wantDerive(t, g, 2, 15, -1, 7)
	return g
}

func TestNewHoldsNothing(t *testing.T) {
	g := New()
	wantNodes(t, g)
	wantOpen(t, g)
	wantRights(t, g)
	for _, n := range outside(0) {
		wantAbsent(t, g, n)
		wantCut(t, g, n, api.ErrNone)
		wantMade(t, "Derive")(0, api.ErrNone)(g.Derive(n, api.RAll, -1))
		if n != -1 {
			wantMade(t, "Cell")(0, api.ErrNone)(g.Cell(0, api.RAll, n))
			wantMade(t, "Func")(0, api.ErrNone)(g.Func(0, 0, api.RAll, n))
		}
	}
	wantNodes(t, g)
	wantOpen(t, g)
}

func TestGraphsAreApart(t *testing.T) {
	a, b := New(), New()
	wantGate(t, a, 0)
	wantGate(t, b, 0)
	wantCell(t, a, 1, 3, 0, 0)
	wantFunc(t, b, 1, 2, 8, 0, 0)
	wantCut(t, a, 0, 0)
	wantOpen(t, a, false)
	wantOpen(t, b, true)
	wantRights(t, a, 0)
	wantRights(t, b, 8)
	wantNodes(t, a, api.Node{Parent: -1, Gate: 0, Rights: 3, Cell: 1, Plugin: -1})
	wantNodes(t, b, api.Node{Parent: -1, Gate: 0, Rights: 8, Plugin: 1, Func: 2})
	wantNodes(t, New())
	wantOpen(t, New())
}

func TestGateNumbers(t *testing.T) {
	g := New()
	var open []bool
	for k := range api.MaxGates {
		wantGate(t, g, k)
		open = append(open, true)
		wantOpen(t, g, open...)
		// The capabilities that come between have numbers of their own.
		wantCell(t, g, 0, 0, k, k)
	}
	for range 3 {
		wantMade(t, "Gate")(0, api.ErrFull)(g.Gate())
	}
	wantOpen(t, g, open...)
	wantCut(t, g, api.MaxGates-1, 0)
	open[api.MaxGates-1] = false
	wantMade(t, "Gate, of which one was cut")(0, api.ErrFull)(g.Gate())
	wantOpen(t, g, open...)
}

func TestCut(t *testing.T) {
	g := New()
	for k := range 3 {
		wantGate(t, g, k)
	}
	wantCut(t, g, 1, 0)
	wantOpen(t, g, true, false, true)
	wantCut(t, g, 1, 0)
	wantOpen(t, g, true, false, true)
	for _, k := range outside(3) {
		wantCut(t, g, k, api.ErrNone)
	}
	wantOpen(t, g, true, false, true)
	// A gate that comes later is open, and opens none that was cut.
	wantGate(t, g, 3)
	wantOpen(t, g, true, false, true, true)
	wantCut(t, g, 0, 0)
	wantCut(t, g, 3, 0)
	wantOpen(t, g, false, false, true, false)
}

func TestCellNode(t *testing.T) {
	g := New()
	wantGate(t, g, 0)
	var want []api.Node
	for cell := range api.MaxCells {
		for i, gate := range []int{-1, 0} {
			r := []int{0, api.RAll}[(cell+i)%2]
			wantCell(t, g, cell, r, gate, len(want))
			n := api.Node{Parent: -1, Gate: gate, Rights: r, Cell: cell, Plugin: -1}
			wantTarget(t, g, len(want), n)
			want = append(want, n)
			wantNodes(t, g, want...)
		}
	}
}

func TestFuncNode(t *testing.T) {
	g := New()
	wantGate(t, g, 0)
	wantGate(t, g, 1)
	var want []api.Node
	for plugin := range api.MaxPlugins {
		for f := range api.MaxFuncs {
			r, gate := (plugin+5*f)%(api.RAll+1), f%3-1
			wantFunc(t, g, plugin, f, r, gate, len(want))
			n := api.Node{Parent: -1, Gate: gate, Rights: r, Plugin: plugin, Func: f}
			wantTarget(t, g, len(want), n)
			want = append(want, n)
			wantNodes(t, g, want...)
		}
	}
}

func TestDeriveNode(t *testing.T) {
	g := New()
	wantGate(t, g, 0)
	wantCell(t, g, 11, 1, -1, 0)
	wantFunc(t, g, 3, 5, 2, 0, 1)
	wantDerive(t, g, 0, 15, -1, 2)
	wantDerive(t, g, 1, 0, 0, 3)
	wantDerive(t, g, 3, 4, -1, 4)
	wantDerive(t, g, 0, 8, 0, 5)
	wantNodes(t, g,
		api.Node{Parent: -1, Gate: -1, Rights: 1, Cell: 11, Plugin: -1},
		api.Node{Parent: -1, Gate: 0, Rights: 2, Plugin: 3, Func: 5},
		api.Node{Parent: 0, Gate: -1, Rights: 15, Plugin: -1},
		api.Node{Parent: 1, Gate: 0, Rights: 0, Plugin: -1},
		api.Node{Parent: 3, Gate: -1, Rights: 4, Plugin: -1},
		api.Node{Parent: 0, Gate: 0, Rights: 8, Plugin: -1},
	)
}

// A capability may be made through a gate that was cut, and of one whose way is not open: it is there, without rights.
func TestMadeThroughCutGate(t *testing.T) {
	g := New()
	wantGate(t, g, 0)
	wantCut(t, g, 0, 0)
	wantCell(t, g, 2, 15, 0, 0)
	wantFunc(t, g, 1, 2, 15, 0, 1)
	wantDerive(t, g, 0, 15, 0, 2)
	wantDerive(t, g, 2, 15, -1, 3)
	wantRights(t, g, 0, 0, 0, 0)
	wantGates(t, g, 3, 0, 0)
	wantTarget(t, g, 3, api.Node{Parent: -1, Gate: 0, Rights: 15, Cell: 2, Plugin: -1})
}

func TestRefusals(t *testing.T) {
	g := ways(t)
	wantCut(t, g, 3, 0)
	nodes := g.Nodes()
	for _, cell := range outside(api.MaxCells) {
		wantMade(t, "Cell, no such cell")(0, api.ErrRange)(g.Cell(cell, 1, -1))
		wantMade(t, "Cell, no such cell, no such gate")(0, api.ErrRange)(g.Cell(cell, 1, 4))
	}
	for _, plugin := range outside(api.MaxPlugins) {
		wantMade(t, "Func, no such plugin")(0, api.ErrRange)(g.Func(plugin, 0, 1, -1))
		wantMade(t, "Func, no such plugin, no such gate")(0, api.ErrRange)(g.Func(plugin, 5, 1, 4))
	}
	for _, f := range outside(api.MaxFuncs) {
		wantMade(t, "Func, no such function")(0, api.ErrRange)(g.Func(0, f, 1, -1))
		wantMade(t, "Func, no such function, no such gate")(0, api.ErrRange)(g.Func(3, f, 1, 4))
	}
	for _, parent := range outside(len(nodes)) {
		wantMade(t, "Derive, no such parent")(0, api.ErrNone)(g.Derive(parent, 1, -1))
		wantMade(t, "Derive, no such parent, no rights")(0, api.ErrNone)(g.Derive(parent, 16, 4))
		wantAbsent(t, g, parent)
	}
	for _, r := range noRights {
		wantMade(t, "Cell, no rights")(0, api.ErrRange)(g.Cell(0, r, -1))
		wantMade(t, "Func, no rights")(0, api.ErrRange)(g.Func(0, 0, r, -1))
		wantMade(t, "Derive, no rights")(0, api.ErrRange)(g.Derive(0, r, -1))
		wantMade(t, "Cell, no rights, no such gate")(0, api.ErrRange)(g.Cell(11, r, 4))
		wantMade(t, "Func, no rights, no such gate")(0, api.ErrRange)(g.Func(3, 5, r, 4))
		wantMade(t, "Derive, no rights, no such gate")(0, api.ErrRange)(g.Derive(7, r, 4))
	}
	for _, gate := range outside(4)[1:] {
		wantMade(t, "Cell, no such gate")(0, api.ErrNone)(g.Cell(0, 0, gate))
		wantMade(t, "Func, no such gate")(0, api.ErrNone)(g.Func(0, 0, 0, gate))
		wantMade(t, "Derive, no such gate")(0, api.ErrNone)(g.Derive(0, 0, gate))
	}
	// All is as it was, and the next number is the next one.
	wantNodes(t, g, nodes...)
	wantOpen(t, g, true, true, true, false)
	wantRights(t, g, 15, 12, 7, 6, 0, 6, 0, 7)
	wantCell(t, g, 0, 0, 3, 8)
	wantGate(t, g, 4)
}

func TestFull(t *testing.T) {
	g := full(t)
	nodes := g.Nodes()
	if len(nodes) != api.MaxNodes {
		t.Fatalf("%d capabilities, want %d", len(nodes), api.MaxNodes)
	}
	gone := api.MaxGates
	for range 2 {
		wantMade(t, "Cell")(0, api.ErrFull)(g.Cell(0, 0, -1))
		wantMade(t, "Func")(0, api.ErrFull)(g.Func(0, 0, 0, 0))
		wantMade(t, "Derive")(0, api.ErrFull)(g.Derive(api.MaxNodes-1, api.RAll, api.MaxGates-1))
	}
	wantMade(t, "Cell, no such cell")(0, api.ErrRange)(g.Cell(api.MaxCells, 16, gone))
	wantMade(t, "Cell, no rights")(0, api.ErrRange)(g.Cell(0, 16, gone))
	wantMade(t, "Cell, no such gate")(0, api.ErrNone)(g.Cell(0, 15, gone))
	wantMade(t, "Func, no such plugin")(0, api.ErrRange)(g.Func(api.MaxPlugins, 0, 16, gone))
	wantMade(t, "Func, no such function")(0, api.ErrRange)(g.Func(0, api.MaxFuncs, 16, gone))
	wantMade(t, "Func, no rights")(0, api.ErrRange)(g.Func(0, 0, 16, gone))
	wantMade(t, "Func, no such gate")(0, api.ErrNone)(g.Func(0, 0, 15, gone))
	wantMade(t, "Derive, no such parent")(0, api.ErrNone)(g.Derive(api.MaxNodes, 16, gone))
	wantMade(t, "Derive, no rights")(0, api.ErrRange)(g.Derive(0, 16, gone))
	wantMade(t, "Derive, no such gate")(0, api.ErrNone)(g.Derive(0, 15, gone))
	wantNodes(t, g, nodes...)
	for _, n := range outside(api.MaxNodes) {
		wantAbsent(t, g, n)
	}
	wantCut(t, g, 3, 0)
	wantMade(t, "Cell, of which some are dead")(0, api.ErrFull)(g.Cell(0, 0, -1))
}

// Capabilities may be as many as there may be before there is a gate at all.
func TestFullWithoutGates(t *testing.T) {
	g := New()
	wantCell(t, g, 0, 15, -1, 0)
	for n := 1; n < api.MaxNodes; n++ {
		wantDerive(t, g, n-1, 15, -1, n)
	}
	wantMade(t, "Derive, no such gate")(0, api.ErrNone)(g.Derive(0, 15, 0))
	wantMade(t, "Derive")(0, api.ErrFull)(g.Derive(0, 15, -1))
	wantGate(t, g, 0)
	wantMade(t, "Derive")(0, api.ErrFull)(g.Derive(0, 15, 0))
	// The longest way that there is.
	last := api.MaxNodes - 1
	wantTarget(t, g, last, api.Node{Parent: -1, Gate: -1, Rights: 15, Plugin: -1})
	wantGates(t, g, last)
	if r := g.Rights(last); r != 15 {
		t.Errorf("Rights(%d) = %d, want 15", last, r)
	}
}

func TestWays(t *testing.T) {
	g := ways(t)
	wantRights(t, g, 15, 12, 7, 6, 8, 6, 0, 7)
	for node, gates := range [][]int{{1}, {}, {0, 1}, {0, 1}, {3}, {2, 0, 1}, {0, 1}, {0, 1}} {
		wantGates(t, g, node, gates...)
	}
	cell := api.Node{Parent: -1, Gate: 1, Rights: 15, Cell: 7, Plugin: -1}
	f := api.Node{Parent: -1, Gate: -1, Rights: 12, Plugin: 3, Func: 5}
	for node, want := range []api.Node{cell, f, cell, cell, f, cell, cell, cell} {
		wantTarget(t, g, node, want)
	}
}

func TestCutCutsAllBehind(t *testing.T) {
	for gate, want := range [][]int{
		{15, 12, 0, 0, 8, 0, 0, 0},
		{0, 12, 0, 0, 8, 0, 0, 0},
		{15, 12, 7, 6, 8, 0, 0, 7},
		{15, 12, 7, 6, 0, 6, 0, 7},
	} {
		g := ways(t)
		nodes := g.Nodes()
		wantCut(t, g, gate, 0)
		wantRights(t, g, want...)
		// A second cut is none, and what is told beside the rights stays.
		wantCut(t, g, gate, 0)
		wantRights(t, g, want...)
		wantNodes(t, g, nodes...)
		wantGates(t, g, 5, 2, 0, 1)
		wantGates(t, g, 4, 3)
		wantTarget(t, g, 5, nodes[0])
		wantTarget(t, g, 4, nodes[1])
	}
	g := ways(t)
	for gate, want := range [][]int{
		{15, 12, 0, 0, 8, 0, 0, 0},
		{0, 12, 0, 0, 8, 0, 0, 0},
		{0, 12, 0, 0, 8, 0, 0, 0},
		{0, 12, 0, 0, 0, 0, 0, 0},
	} {
		wantCut(t, g, gate, 0)
		wantRights(t, g, want...)
	}
	// Nothing that comes later brings back what was cut.
	wantGate(t, g, 4)
	wantDerive(t, g, 5, 15, 4, 8)
	wantRights(t, g, 0, 12, 0, 0, 0, 0, 0, 0, 0)
	wantGates(t, g, 8, 4, 2, 0, 1)
}

// A gate through which several on one way go is told for each of them.
func TestSameGateTwiceOnAWay(t *testing.T) {
	g := New()
	wantGate(t, g, 0)
	wantGate(t, g, 1)
	wantCell(t, g, 4, 15, 0, 0)
	wantDerive(t, g, 0, 15, 1, 1)
	wantDerive(t, g, 1, 15, 1, 2)
	wantDerive(t, g, 2, 15, 0, 3)
	wantGates(t, g, 3, 0, 1, 1, 0)
	wantCut(t, g, 1, 0)
	wantRights(t, g, 15, 0, 0, 0)
	wantGates(t, g, 3, 0, 1, 1, 0)
}

func TestRightsMeet(t *testing.T) {
	for a := range api.RAll + 1 {
		for b := range api.RAll + 1 {
			g := New()
			wantCell(t, g, 0, a, -1, 0)
			wantDerive(t, g, 0, b, -1, 1)
			wantFunc(t, g, 0, 0, b, -1, 2)
			wantDerive(t, g, 2, a, -1, 3)
			wantRights(t, g, a, a&b, b, a&b)
		}
	}
}

func TestAnswersAreNewMemory(t *testing.T) {
	g := ways(t)
	nodes, gates := g.Nodes(), g.Gates(5)
	keptNodes, keptGates := slices.Clone(nodes), slices.Clone(gates)
	for i := range nodes {
		nodes[i] = api.Node{Parent: i, Gate: 77, Rights: 99, Cell: -5, Plugin: 66, Func: 55}
	}
	for i := range gates {
		gates[i] = 3
	}
	_ = append(nodes, api.Node{Rights: 1})
	_ = append(gates, 3)
	wantNodes(t, g, keptNodes...)
	wantGates(t, g, 5, keptGates...)
	wantRights(t, g, 15, 12, 7, 6, 8, 6, 0, 7)
	wantTarget(t, g, 5, keptNodes[0])

	// Nor does what the graph does later change what it answered ahead.
	nodes, gates = g.Nodes(), g.Gates(5)
	wantDerive(t, g, 5, 1, 3, 8)
	wantCut(t, g, 2, 0)
	if !slices.Equal(nodes, keptNodes) || !slices.Equal(gates, keptGates) {
		t.Errorf("an answer changed: %v, %v", nodes, gates)
	}
	_ = append(nodes, api.Node{Rights: 1})
	wantNodes(t, g, append(keptNodes, api.Node{Parent: 5, Gate: 3, Rights: 1, Plugin: -1})...)
}

// Asking changes nothing.
func TestAskingTwice(t *testing.T) {
	g := ways(t)
	wantCut(t, g, 0, 0)
	for range 3 {
		wantOpen(t, g, false, true, true, true)
		wantRights(t, g, 15, 12, 0, 0, 8, 0, 0, 0)
		wantGates(t, g, 5, 2, 0, 1)
		wantNodes(t, g, g.Nodes()...)
		wantAbsent(t, g, 8)
	}
	wantDerive(t, g, 0, 0, -1, 8)
}

// model says the same as a Graph in another way: a capability's rights, gates and target are worked out when it is made.
type model struct {
	nodes, targets []api.Node
	meet           []int
	gates          [][]int
	cut            []bool
}

func (m *model) rights(node int) int {
	for _, k := range m.gates[node] {
		if m.cut[k] {
			return 0
		}
	}
	return m.meet[node]
}

func (m *model) root(n api.Node) {
	m.nodes, m.targets, m.meet = append(m.nodes, n), append(m.targets, n), append(m.meet, n.Rights)
	m.gates = append(m.gates, through(n.Gate, nil))
}

func (m *model) derived(n api.Node) {
	p := n.Parent
	m.nodes, m.targets, m.meet = append(m.nodes, n), append(m.targets, m.targets[p]), append(m.meet, n.Rights&m.meet[p])
	m.gates = append(m.gates, through(n.Gate, m.gates[p]))
}

func through(gate int, rest []int) []int {
	if gate < 0 {
		return rest
	}
	return append([]int{gate}, rest...)
}

// step does one thing, that is not refused, to both.
func (m *model) step(t *testing.T, g *Graph, r *rand.Rand) {
	t.Helper()
	gate, right, next := r.Intn(len(m.cut)+1)-1, api.RAll&^(r.Intn(16)&r.Intn(16)), len(m.nodes)
	switch kind := r.Intn(10); {
	case kind == 0 && len(m.cut) < api.MaxGates:
		wantGate(t, g, len(m.cut))
		m.cut = append(m.cut, false)
	case kind == 1 && gate >= 0 && r.Intn(3) == 0:
		wantCut(t, g, gate, 0)
		m.cut[gate] = true
	case kind == 2:
		cell := r.Intn(api.MaxCells)
		wantCell(t, g, cell, right, gate, next)
		m.root(api.Node{Parent: -1, Gate: gate, Rights: right, Cell: cell, Plugin: -1})
	case kind == 3:
		plugin, f := r.Intn(api.MaxPlugins), r.Intn(api.MaxFuncs)
		wantFunc(t, g, plugin, f, right, gate, next)
		m.root(api.Node{Parent: -1, Gate: gate, Rights: right, Plugin: plugin, Func: f})
	case next > 0:
		parent := r.Intn(next)
		wantDerive(t, g, parent, right, gate, next)
		m.derived(api.Node{Parent: parent, Gate: gate, Rights: right, Plugin: -1})
	}
}

func TestManySteps(t *testing.T) {
	for seed := range int64(60) {
		r, g, m := rand.New(rand.NewSource(seed)), New(), &model{}
		for len(m.nodes) < api.MaxNodes {
			m.step(t, g, r)
			want := make([]int, len(m.nodes))
			for n := range m.nodes {
				want[n] = m.rights(n)
				wantGates(t, g, n, m.gates[n]...)
				wantTarget(t, g, n, m.targets[n])
				if p := m.nodes[n].Parent; p >= 0 && want[n]&^g.Rights(p) != 0 {
					t.Errorf("the rights of %d grew over those of %d", n, p)
				}
			}
			wantRights(t, g, want...)
			wantNodes(t, g, m.nodes...)
			if t.Failed() {
				t.Fatalf("seed %d, %d capabilities", seed, len(m.nodes))
			}
		}
	}
}
