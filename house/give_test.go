package house

import (
	"fmt"
	"math"
	"reflect"
	"slices"
	"strings"
	"testing"

	"letterlock/api"
	"letterlock/vals"
)

// noRights are numbers that are no rights.
var noRights = append([]int{-1, api.RAll + 1, 17, 31, 255}, far...)

// oneCut tells a house with three gates, of which 1 was cut.
func oneCut(t *testing.T) *House {
	t.Helper()
	h := New()
	prepare(t, h, newGate(), newGate(), newGate(), cut(1))
	return h
}

// wantGiven asks that the step gives a plugin a capability of which the node is told, and nothing else.
func wantGiven(t *testing.T, h *House, x api.Step, n api.Node) {
	t.Helper()
	var hands [api.MaxPlugins][]api.Val
	for p := range hands {
		hands[p] = h.Hand(p)
	}
	before := h.Nodes()
	given := api.Val{Kind: api.VCap, N: int64(len(before))}
	if e := h.Do(x); !reflect.DeepEqual(e, api.Event{V: given}) {
		t.Errorf("%s: %v, want %v", describe(x), e, given)
	}
	if got := h.Nodes(); !slices.Equal(got, append(before, n)) {
		t.Errorf("%s: the capabilities are %v, want %v behind %v", describe(x), got, n, before)
	}
	for p, l := range hands {
		if p == x.P {
			l = append(l, given)
		}
		if got := h.Hand(p); len(got) != len(l) || len(l) > 0 && !reflect.DeepEqual(got, l) {
			t.Errorf("%s: %d was given %v, want %v", describe(x), p, got, l)
		}
	}
}

func TestGrantAndLinkWithEachRight(t *testing.T) {
	for r := range api.RAll + 1 {
		h := oneCut(t)
		for gate := -1; gate < 3; gate++ {
			for p := range api.MaxPlugins {
				cell, q, f := (r+p)%api.MaxCells, (r+p+gate+1)%api.MaxPlugins, (r+p)%api.MaxFuncs
				wantGiven(t, h, grant(p, cell, r, gate), api.Node{Parent: -1, Gate: gate, Rights: r, Cell: cell, Plugin: -1})
				wantGiven(t, h, link(p, q, f, r, gate), api.Node{Parent: -1, Gate: gate, Rights: r, Plugin: q, Func: f})
				rights := r
				if gate == 1 {
					rights = 0
				}
				for _, v := range h.Hand(p)[len(h.Hand(p))-2:] {
					if got := h.Rights(int(v.N)); got != rights {
						t.Errorf("through %d it has %d, want %d", gate, got, rights)
					}
				}
			}
		}
	}
}

func TestGrantEachCell(t *testing.T) {
	h := New()
	for cell := range api.MaxCells {
		for p := range api.MaxPlugins {
			wantGiven(t, h, grant(p, cell, 7, -1), api.Node{Parent: -1, Gate: -1, Rights: 7, Cell: cell, Plugin: -1})
		}
	}
}

// A function may be linked of a plugin that is not loaded, or has not so many, and also of the plugin itself.
func TestLinkEachFunction(t *testing.T) {
	for _, texts := range [][]string{{}, {"fun (arg)", "", "fun (arg) fun (arg)"}} {
		for p := range api.MaxPlugins {
			h := houseOf(t, texts...)
			for q := range api.MaxPlugins {
				for f := range api.MaxFuncs {
					wantGiven(t, h, link(p, q, f, 15, -1), api.Node{Parent: -1, Gate: -1, Rights: 15, Plugin: q, Func: f})
				}
			}
		}
	}
}

func TestGrantAndLinkToNoPlugin(t *testing.T) {
	h := oneCut(t)
	prepare(t, h, grant(0, 1, 1, 0), link(3, 1, 1, 1, 0))
	for _, p := range noPlugins {
		wantRefused(t, h, grant(p, 1, 1, 0), api.ErrRange)
		wantRefused(t, h, link(p, 1, 1, 1, 0), api.ErrRange)
		// Ahead of the gate that there is none of, and of a graph that is full.
		wantRefused(t, h, grant(p, 1, 1, 3), api.ErrRange)
		wantRefused(t, h, link(p, 1, 1, 1, 3), api.ErrRange)
	}
	fill(t, h, 0)
	for _, p := range noPlugins {
		wantRefused(t, h, grant(p, 1, 1, 0), api.ErrRange)
		wantRefused(t, h, link(p, 1, 1, 1, 3), api.ErrRange)
	}
}

func TestGrantAndLinkOfWhatIsNot(t *testing.T) {
	h := oneCut(t)
	prepare(t, h, grant(2, 1, 1, 0), link(2, 1, 1, 1, 0))
	for p := range api.MaxPlugins {
		for _, n := range append([]int{-1, api.MaxCells, api.MaxCells + 1}, far...) {
			wantRefused(t, h, grant(p, n, 15, -1), api.ErrRange)
			wantRefused(t, h, grant(p, n, 15, 3), api.ErrRange)
		}
		for _, n := range append([]int{-1, api.MaxFuncs, api.MaxFuncs + 1}, far...) {
			wantRefused(t, h, link(p, 1, n, 15, -1), api.ErrRange)
			wantRefused(t, h, link(p, 1, n, 15, 3), api.ErrRange)
		}
		for _, n := range noPlugins {
			wantRefused(t, h, link(p, n, 1, 15, -1), api.ErrRange)
			wantRefused(t, h, link(p, n, 1, 15, 3), api.ErrRange)
		}
	}
}

func TestGrantAndLinkWithoutRightsOrGates(t *testing.T) {
	h := oneCut(t)
	for _, r := range noRights {
		for gate := -1; gate < 3; gate++ {
			wantRefused(t, h, grant(0, 1, r, gate), api.ErrRange)
			wantRefused(t, h, link(0, 1, 1, r, gate), api.ErrRange)
		}
		// Ahead of the gate.
		wantRefused(t, h, grant(0, 1, r, 3), api.ErrRange)
		wantRefused(t, h, link(0, 1, 1, r, math.MinInt), api.ErrRange)
	}
	for _, gate := range append([]int{3, 4, api.MaxGates - 1, api.MaxGates}, far...) {
		for _, r := range []int{0, 1, api.RAll} {
			wantRefused(t, h, grant(0, 1, r, gate), api.ErrNone)
			wantRefused(t, h, link(0, 1, 1, r, gate), api.ErrNone)
		}
	}
	prepare(t, h, newGate())
	wantGiven(t, h, grant(0, 1, 1, 3), api.Node{Parent: -1, Gate: 3, Rights: 1, Cell: 1, Plugin: -1})
	wantGiven(t, h, link(0, 1, 1, 1, 3), api.Node{Parent: -1, Gate: 3, Rights: 1, Plugin: 1, Func: 1})
}

// Through the first gate only where there is one.
func TestGrantAndLinkWhereThereAreNoGates(t *testing.T) {
	h := New()
	wantRefused(t, h, grant(0, 1, 1, 0), api.ErrNone)
	wantRefused(t, h, link(0, 1, 1, 1, 0), api.ErrNone)
	prepare(t, h, newGate(), grant(0, 1, 1, 0), link(0, 1, 1, 1, 0))
	wantHand(t, h, 0, "#0 #1")
}

func TestGrantAndLinkInAFullGraph(t *testing.T) {
	for _, last := range []api.Step{grant(1, 2, 3, 0), link(1, 2, 3, 4, 0)} {
		h := oneCut(t)
		fill(t, h, 1)
		e := h.Do(last)
		if !reflect.DeepEqual(e, api.Event{V: api.Val{Kind: api.VCap, N: api.MaxNodes - 1}}) {
			t.Errorf("%s: %v", describe(last), e)
		}
		wantHand(t, h, 1, fmt.Sprint("#", api.MaxNodes-1))
		for p := range api.MaxPlugins {
			wantRefused(t, h, grant(p, 2, 3, -1), api.ErrFull)
			wantRefused(t, h, link(p, 2, 3, 4, 0), api.ErrFull)
			wantRefused(t, h, grant(p, 2, 3, 1), api.ErrFull)
			// All else that is wrong is told ahead of that.
			wantRefused(t, h, grant(p, 2, 3, 3), api.ErrNone)
			wantRefused(t, h, link(p, 2, 3, 4, 3), api.ErrNone)
			wantRefused(t, h, grant(p, 12, 3, 0), api.ErrRange)
			wantRefused(t, h, grant(p, 2, 16, 0), api.ErrRange)
			wantRefused(t, h, link(p, 2, 6, 4, 0), api.ErrRange)
			wantRefused(t, h, link(p, 4, 3, 4, 0), api.ErrRange)
			wantRefused(t, h, link(p, 2, 3, -1, 0), api.ErrRange)
		}
		// Gates there may be more.
		want(t, h, newGate(), "3", 0)
	}
}

// One plugin may have all that there is, in order.
func TestGiveAllToOne(t *testing.T) {
	for p := range api.MaxPlugins {
		h := New()
		var texts []string
		for n := range api.MaxNodes {
			x := grant(p, n%api.MaxCells, n%16, -1)
			if n%3 == 0 {
				x = link(p, n%api.MaxPlugins, n%api.MaxFuncs, n%16, -1)
			}
			want(t, h, x, fmt.Sprint("#", n), 0)
			texts = append(texts, fmt.Sprint("#", n))
			wantHand(t, h, p, strings.Join(texts, " "))
		}
		wantRefused(t, h, grant(p, 0, 0, -1), api.ErrFull)
		prepare(t, h, load(p, module(t, "fun (arg)")))
		for n := range api.MaxNodes {
			want(t, h, call(p, 0, n), fmt.Sprint("#", n), 1)
		}
		wantCode(t, h, call(p, 0, api.MaxNodes), api.ErrNone, 0)
	}
}

// What plugins made for themselves is no part of their hands, and takes room in the graph, and numbers.
func TestGiveBehindWhatPluginsMade(t *testing.T) {
	h := houseOf(t, "fun (narrow 1 (arg))")
	want(t, h, grant(0, 1, 15, -1), "#0", 0)
	want(t, h, call(0, 0, 0), "#1", 2)
	want(t, h, grant(0, 2, 15, -1), "#2", 0)
	wantHand(t, h, 0, "#0 #2")
	want(t, h, call(0, 0, 1), "#3", 2)
	wantNode(t, h, 4, api.Node{Parent: 2, Gate: -1, Rights: 1, Plugin: -1})
	fill(t, h, 1)
	want(t, h, call(0, 0, 1), fmt.Sprint("#", api.MaxNodes-1), 2)
	wantRefused(t, h, grant(0, 1, 15, -1), api.ErrFull)
	wantRefused(t, h, link(0, 1, 1, 15, -1), api.ErrFull)
	wantHand(t, h, 0, "#0 #2")
	wantCode(t, h, call(0, 0, 0), api.ErrFull, 2)
}

func TestGates(t *testing.T) {
	h := New()
	for n := range api.MaxGates {
		if h.Has(n) {
			t.Errorf("there is the gate %d", n)
		}
		if e := h.Do(newGate()); !reflect.DeepEqual(e, api.Event{V: number(int64(n))}) {
			t.Errorf("%v, want the number %d", e, n)
		}
		if !h.Open(n) {
			t.Errorf("the gate %d is not open", n)
		}
	}
	wantRefused(t, h, newGate(), api.ErrFull)
	prepare(t, h, cut(0), cut(api.MaxGates-1))
	wantRefused(t, h, newGate(), api.ErrFull)
	for n := range api.MaxGates {
		if h.Open(n) != (n > 0 && n < api.MaxGates-1) {
			t.Errorf("the gate %d is open: %v", n, h.Open(n))
		}
	}
	want(t, h, grant(0, 1, 1, api.MaxGates-2), "#0", 0)
}

// Gates that plugins make count, too.
func TestGatesOfPlugins(t *testing.T) {
	h := houseOf(t, "fun (wrap (arg)) fun (let (wrap (arg)) (cut (snd (var 0))))")
	prepare(t, h, grant(0, 1, 15, -1))
	want(t, h, newGate(), "0", 0)
	want(t, h, call(0, 0, 0), "(#1 !1)", 2)
	want(t, h, newGate(), "2", 0)
	want(t, h, call(0, 1, 0), "nil", 6)
	if h.Open(3) || !h.Open(1) {
		t.Error("not that gate was cut")
	}
	for n := 4; n < api.MaxGates-1; n++ {
		want(t, h, newGate(), fmt.Sprint(n), 0)
	}
	want(t, h, call(0, 0, 0), fmt.Sprintf("(#3 !%d)", api.MaxGates-1), 2)
	wantRefused(t, h, newGate(), api.ErrFull)
	want(t, h, cut(3), "nil", 0)
	want(t, h, cut(api.MaxGates-1), "nil", 0)
	if got := h.Rights(3); got != 0 || h.Rights(1) != 15 {
		t.Errorf("behind the gate that was cut there are the rights %d", got)
	}
}

func TestCut(t *testing.T) {
	h := New()
	for _, gate := range append([]int{-1, 0, 1}, far...) {
		wantRefused(t, h, cut(gate), api.ErrNone)
	}
	prepare(t, h, newGate(), newGate(), newGate())
	prepare(t, h, grant(0, 1, 15, 0), grant(1, 1, 15, 1), link(0, 1, 1, 15, 1), grant(2, 1, 15, -1))
	for _, gate := range append([]int{-1, 3, 4, api.MaxGates - 1, api.MaxGates}, far...) {
		wantRefused(t, h, cut(gate), api.ErrNone)
	}
	before := state(h)
	if e := h.Do(cut(1)); !reflect.DeepEqual(e, api.Event{}) {
		t.Errorf("%v", e)
	}
	if got, want := state(h), strings.Replace(before, "gate 1 true", "gate 1 false", 1); got != want {
		t.Errorf("%s, want %s", got, want)
	}
	for node, r := range []int{15, 0, 0, 15} {
		if h.Rights(node) != r {
			t.Errorf("%d has the rights %d, want %d", node, h.Rights(node), r)
		}
	}
	// A gate that was cut may be cut again: nothing comes of it.
	wantRefused(t, h, cut(1), 0)
	prepare(t, h, cut(0), cut(2))
	for gate := range 3 {
		wantRefused(t, h, cut(gate), 0)
	}
	wantRefused(t, h, cut(3), api.ErrNone)
	want(t, h, newGate(), "3", 0)
	if h.Open(1) || !h.Open(3) {
		t.Error("a new gate is open, and opens no other one")
	}
}

// A gate that is open no longer is so whoever cut it, and a step of cutting knows nothing of hands.
func TestCutByPluginsAndSteps(t *testing.T) {
	h := houseOf(t, "fun (keep (wrap (arg))) fun (cut (snd (kept))) fun (read (fst (kept)))")
	prepare(t, h, grant(0, 4, 15, -1), call(0, 0, 0))
	want(t, h, value(0, 2, 0), "0", 3)
	want(t, h, cut(0), "nil", 0)
	wantCode(t, h, value(0, 2, 0), api.ErrRight, 3)
	want(t, h, value(0, 1, 0), "nil", 3)
	prepare(t, h, call(0, 0, 0))
	want(t, h, value(0, 2, 0), "0", 3)
	want(t, h, value(0, 1, 0), "nil", 3)
	wantCode(t, h, value(0, 2, 0), api.ErrRight, 3)
	wantRefused(t, h, cut(1), 0)
	wantHand(t, h, 0, "#0")
	if got := vals.Text(h.Kept(0)); got != "(#2 !1)" {
		t.Errorf("it keeps %s", got)
	}
}
