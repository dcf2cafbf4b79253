package house

import (
	"fmt"
	"math"
	"reflect"
	"strings"
	"testing"

	"letterlock/api"
	"letterlock/parse"
	"letterlock/vals"
	"letterlock/vm"
)

// far are numbers of which nothing is, some of which are a thing's number in their low bits.
var far = []int{
	math.MinInt, math.MinInt + 1, math.MinInt + 4, -1 << 32, -1<<32 + 1, -256, -2,
	256, 1 << 32, 1<<32 + 1, 1<<32 + 2, 1 << 62, math.MaxInt - 1, math.MaxInt,
}

// noPlugins are numbers that no plugin has.
var noPlugins = append([]int{-1, api.MaxPlugins, api.MaxPlugins + 1}, far...)

func number(n int64) api.Val          { return api.Val{Kind: api.VInt, N: n} }
func pair(a, b api.Val) api.Val       { return api.Val{Kind: api.VPair, L: []api.Val{a, b}} }
func seal(n int64, v api.Val) api.Val { return api.Val{Kind: api.VSeal, N: n, L: []api.Val{v}} }

func load(p int, m api.Module) api.Step { return api.Step{Kind: api.SLoad, P: p, M: m} }
func grant(p, cell, r, gate int) api.Step {
	return api.Step{Kind: api.SGrant, P: p, K: cell, R: r, G: gate}
}
func call(p, f, thing int) api.Step { return api.Step{Kind: api.SCall, P: p, K: f, H: thing} }
func cut(gate int) api.Step         { return api.Step{Kind: api.SCut, G: gate} }
func newGate() api.Step             { return api.Step{Kind: api.SGate} }

// link gives p a capability of the function f of q.
func link(p, q, f, r, gate int) api.Step {
	return api.Step{Kind: api.SLink, P: p, Q: q, K: f, R: r, G: gate}
}

// value calls a function with a number.
func value(p, f int, n int64) api.Step {
	return api.Step{Kind: api.SCall, P: p, K: f, H: -1, N: n}
}

// module tells the module of a text.
func module(t *testing.T, text string) api.Module {
	t.Helper()
	m, f := parse.Parse(text)
	if f.Code != 0 {
		t.Fatalf("%s: %v", text, f)
	}
	return m
}

// houseOf tells a house with a plugin of each text; of an empty text there is none.
func houseOf(t *testing.T, texts ...string) *House {
	t.Helper()
	h := New()
	for p, text := range texts {
		if text != "" {
			want(t, h, load(p, module(t, text)), "nil", 0)
		}
	}
	return h
}

// prepare does steps that must all come to something.
func prepare(t *testing.T, h *House, steps ...api.Step) {
	t.Helper()
	for i, x := range steps {
		if e := h.Do(x); e.Code != 0 {
			t.Fatalf("step %d, of the kind %d: the code %d", i, x.Kind, e.Code)
		}
	}
}

// state tells all that may be seen of a house.
func state(h *House) string {
	var text strings.Builder
	fmt.Fprintln(&text, "nodes", h.Nodes())
	for k := 0; h.Has(k); k++ {
		fmt.Fprintln(&text, "gate", k, h.Open(k))
	}
	fmt.Fprintln(&text, "cells", h.World.Cells(), h.World.Log())
	for p, x := range h.Plugins {
		fmt.Fprintln(&text, "plugin", p, x.There, x.Code, vals.Text(h.Kept(p)), vals.Text(x.Kept), hand(h, p))
	}
	return text.String()
}

// hand tells the texts of what a plugin was given.
func hand(h *House, p int) string {
	var texts []string
	for _, v := range h.Hand(p) {
		texts = append(texts, vals.Text(v))
	}
	return strings.Join(texts, " ")
}

// describe tells a step, but for its module.
func describe(x api.Step) string {
	return fmt.Sprintf("kind %d P %d Q %d K %d H %d R %d G %d N %d", x.Kind, x.P, x.Q, x.K, x.H, x.R, x.G, x.N)
}

// want asks for what a step comes to, and in how many steps of a run.
func want(t *testing.T, h *House, x api.Step, text string, fuel int) {
	t.Helper()
	e := h.Do(x)
	if e.Code != 0 || vals.Text(e.V) != text || e.Fuel != fuel {
		t.Errorf("%s: %s in %d, %d, want %s in %d", describe(x), vals.Text(e.V), e.Fuel, e.Code, text, fuel)
	}
}

// wantCode asks for the code of a call, beside which there is nothing but the steps of its run.
func wantCode(t *testing.T, h *House, x api.Step, code, fuel int) {
	t.Helper()
	if e := h.Do(x); !reflect.DeepEqual(e, api.Event{Code: code, Fuel: fuel}) {
		t.Errorf("%s: %v, want the code %d in %d", describe(x), e, code, fuel)
	}
}

// wantRefused asks for the code of a step that does nothing.
func wantRefused(t *testing.T, h *House, x api.Step, code int) {
	t.Helper()
	before := state(h)
	wantCode(t, h, x, code, 0)
	if after := state(h); after != before {
		t.Errorf("%s: something was done: %s, before: %s", describe(x), after, before)
	}
}

func wantHand(t *testing.T, h *House, p int, texts string) {
	t.Helper()
	if got := hand(h, p); got != texts {
		t.Errorf("%d was given %s, want %s", p, got, texts)
	}
}

func wantKept(t *testing.T, h *House, p int, text string) {
	t.Helper()
	if got := vals.Text(h.Kept(p)); got != text {
		t.Errorf("%d keeps %s, want %s", p, got, text)
	}
}

// wantNode asks for the last of all capabilities, and how many there are.
func wantNode(t *testing.T, h *House, many int, last api.Node) {
	t.Helper()
	if got := h.Nodes(); len(got) != many || got[many-1] != last {
		t.Errorf("the capabilities are %v, want %d, and %v as the last one", got, many, last)
	}
}

// fill gives the plugin 3 capabilities without rights, until there is room for so many more.
func fill(t *testing.T, h *House, room int) {
	t.Helper()
	for len(h.Nodes()) < api.MaxNodes-room {
		prepare(t, h, grant(3, 11, 0, -1))
	}
}

func TestNew(t *testing.T) {
	h := New()
	if h.Box == nil || len(h.Nodes()) != 0 || h.Has(0) || len(h.World.Log()) != 0 {
		t.Errorf("it is not empty: %s", state(h))
	}
	for k, n := range h.World.Cells() {
		if n != 0 {
			t.Errorf("the cell %d holds %d", k, n)
		}
	}
	for p := range api.MaxPlugins {
		if !reflect.DeepEqual(h.Plugins[p], vm.Plugin{}) || len(h.Hand(p)) != 0 || !reflect.DeepEqual(h.Kept(p), api.Val{}) {
			t.Errorf("there is the plugin %d: %v", p, h.Plugins[p])
		}
	}
}

// What a house's box tells is what its steps did, and its steps know what was done to the box.
func TestAHouseIsABox(t *testing.T) {
	h := houseOf(t, "fun (write (arg) (num 7))")
	if b := h.Box; !b.Plugins[0].There || len(b.Plugins[0].Code) != 1 {
		t.Errorf("the plugin is not in the box: %v", b.Plugins[0])
	}
	want(t, h, newGate(), "0", 0)
	if n, code := h.Gate(); n != 1 || code != 0 || !h.Box.Graph.Has(1) {
		t.Errorf("the gate %d, %d, want 1", n, code)
	}
	want(t, h, newGate(), "2", 0)
	if n, code := h.Cell(4, api.RAll, 1); n != 0 || code != 0 {
		t.Errorf("the capability %d, %d, want 0", n, code)
	}
	wantHand(t, h, 0, "")
	want(t, h, grant(0, 5, api.RWrite, 2), "#1", 0)
	wantHand(t, h, 0, "#1")
	if v, used, code := h.Run(0, 0, h.Hand(0)[0], 3); vals.Text(v) != "7" || used != 3 || code != 0 {
		t.Errorf("%s in %d, %d, want 7 in 3", vals.Text(v), used, code)
	}
	h.Cut(2)
	wantCode(t, h, call(0, 0, 0), api.ErrRight, 3)
	if got := h.World.Cells()[5]; got != 7 || len(h.World.Log()) != 1 {
		t.Errorf("the cell holds %d, the log is %v", got, h.World.Log())
	}
}

func TestNoSuchKind(t *testing.T) {
	h := houseOf(t, "fun (keep (arg))", "fun (arg)")
	prepare(t, h, newGate(), grant(0, 1, api.RAll, 0), link(0, 1, 0, api.RAll, 0), value(0, 0, 5))
	kinds := append([]int{-6, -5, -4, -3, -1, 0, 7, 8, 257, 258, 259, 260, 261, 262, 1<<32 + 3, 1<<32 + 4, 1<<32 + 5, 1<<32 + 6}, far...)
	for _, kind := range kinds {
		// Whatever stands beside the kind.
		for _, x := range []api.Step{
			{}, load(0, module(t, "fun (nil)")), grant(0, 1, 1, 0), link(0, 1, 0, 15, 0), call(0, 0, 0), value(0, 0, 6), cut(0), newGate(),
			{P: -1, Q: -1, K: -1, H: -1, R: -1, G: -1, N: -1}, {P: 4, Q: 4, K: 12, H: 2, R: 16, G: 1},
		} {
			x.Kind = kind
			wantRefused(t, h, x, api.ErrKind)
		}
	}
}

// A step goes by what its kind needs alone.
func TestWhatAStepDoesNotNeed(t *testing.T) {
	m := module(t, "fun (pair (arg) (keep (arg)))")
	for _, n := range append([]int{-1, 0, 1, 99}, far...) {
		wild := api.Module{Funcs: []api.Expr{{Op: n}}}
		h := New()
		want(t, h, api.Step{Kind: api.SLoad, P: 2, M: m, Q: n, K: n, H: n, R: n, G: n, N: int64(n)}, "nil", 0)
		want(t, h, api.Step{Kind: api.SGate, P: n, Q: n, K: n, H: n, R: n, G: n, N: int64(n), M: wild}, "0", 0)
		want(t, h, api.Step{Kind: api.SGrant, P: 2, K: 3, R: 5, G: 0, Q: n, H: n, N: int64(n), M: wild}, "#0", 0)
		wantNode(t, h, 1, api.Node{Parent: -1, Gate: 0, Rights: 5, Cell: 3, Plugin: -1})
		want(t, h, api.Step{Kind: api.SLink, P: 2, Q: 1, K: 3, R: 5, G: -1, H: n, N: int64(n), M: wild}, "#1", 0)
		wantNode(t, h, 2, api.Node{Parent: -1, Gate: -1, Rights: 5, Plugin: 1, Func: 3})
		want(t, h, api.Step{Kind: api.SCall, P: 2, H: 1, Q: n, R: n, G: n, N: int64(n), M: wild}, "(#1 nil)", 4)
		want(t, h, api.Step{Kind: api.SCall, P: 2, H: -1, N: 8, Q: n, R: n, G: n, M: wild}, "(8 #1)", 4)
		want(t, h, api.Step{Kind: api.SCut, G: 0, P: n, Q: n, K: n, H: n, R: n, N: int64(n), M: wild}, "nil", 0)
		if h.Open(0) || h.Has(1) {
			t.Errorf("%d: the gate is not cut, or there is another one", n)
		}
		wantHand(t, h, 2, "#0 #1")
	}
}

func TestHandAndKeptOfNoPlugin(t *testing.T) {
	h := houseOf(t, "fun (keep (arg))", "fun (keep (arg))", "fun (keep (arg))", "fun (keep (arg))")
	for p := range api.MaxPlugins {
		prepare(t, h, grant(p, p, api.RAll, -1), value(p, 0, 5))
	}
	for _, p := range noPlugins {
		if l := h.Hand(p); len(l) != 0 {
			t.Errorf("%d was given %v", p, l)
		}
		if v := h.Kept(p); !reflect.DeepEqual(v, api.Val{}) {
			t.Errorf("%d keeps %v", p, v)
		}
	}
}

func TestHand(t *testing.T) {
	h := New()
	for p := range api.MaxPlugins {
		wantHand(t, h, p, "")
	}
	// To plugins that are not loaded, and by turns.
	prepare(t, h, grant(0, 0, 1, -1), link(3, 1, 2, 8, -1), grant(3, 11, 2, -1), link(0, 0, 0, 15, -1), grant(1, 5, 0, -1), grant(0, 0, 1, -1))
	wantHand(t, h, 0, "#0 #3 #5")
	wantHand(t, h, 1, "#4")
	wantHand(t, h, 2, "")
	wantHand(t, h, 3, "#1 #2")
	// Neither asking for it nor other steps change it.
	prepare(t, h, newGate(), cut(0), load(0, module(t, "fun (narrow 1 (arg))")), call(0, 0, 1))
	wantHand(t, h, 0, "#0 #3 #5")
	wantHand(t, h, 3, "#1 #2")
}

func TestKept(t *testing.T) {
	h := houseOf(t, "fun (keep (pair (arg) (seal (kept)))) fun (keep (nil))", "", "fun (arg)", "fun (keep (arg))")
	for p := range api.MaxPlugins {
		wantKept(t, h, p, "nil")
	}
	prepare(t, h, grant(3, 1, 1, -1), value(0, 0, 5))
	wantKept(t, h, 0, "(5 [0 nil])")
	prepare(t, h, value(0, 0, -6), call(3, 0, 0), value(2, 0, 9))
	wantKept(t, h, 0, "(-6 [0 (5 [0 nil])])")
	wantKept(t, h, 1, "nil")
	wantKept(t, h, 2, "nil")
	wantKept(t, h, 3, "#0")
	prepare(t, h, value(0, 1, 0), value(3, 0, math.MinInt64))
	wantKept(t, h, 0, "nil")
	wantKept(t, h, 3, "-9223372036854775808")
}

// The examples of the document.
func TestExamples(t *testing.T) {
	h := houseOf(t, "fun (read (narrow 1 (arg))) fun (write (narrow 1 (arg)) (num 1)) fun (seal (arg)) fun (open (seal (arg)))")
	prepare(t, h, grant(0, 3, api.RRead|api.RWrite, -1))
	want(t, h, call(0, 0, 0), "0", 3)
	wantCode(t, h, call(0, 1, 0), api.ErrRight, 4)
	want(t, h, call(0, 2, 0), "[0 #0]", 2)
	want(t, h, call(0, 3, 0), "#0", 3)
}
