package watch

import (
	"fmt"
	"math"
	"reflect"
	"slices"
	"strings"
	"testing"

	"letterlock/api"
	"letterlock/house"
	"letterlock/parse"
	"letterlock/vals"
)

// far are numbers of which nothing is, some of which are a thing's number in their low bits.
var far = []int{
	math.MinInt, math.MinInt + 1, math.MinInt + 4, -1 << 32, -1<<32 + 1, -256, -2,
	256, 1 << 32, 1<<32 + 1, 1<<32 + 2, 1 << 62, math.MaxInt - 1, math.MaxInt,
}

// noPlugins are numbers that no plugin has, noCells such as no cell has, and noRights such as are no rights.
var (
	noPlugins = append([]int{-1, api.MaxPlugins, api.MaxPlugins + 1}, far...)
	noCells   = append([]int{-1, api.MaxCells, api.MaxCells + 1}, far...)
	noRights  = append([]int{-1, -3, -15, -16, api.RAll + 1, 17, 18, 19, 31, 32, 255, 1<<62 + 1, 1<<62 + 15}, far...)
)

func number(n int64) api.Val            { return api.Val{Kind: api.VInt, N: n} }
func ability(n int) api.Val             { return api.Val{Kind: api.VCap, N: int64(n)} }
func load(p int, m api.Module) api.Step { return api.Step{Kind: api.SLoad, P: p, M: m} }
func call(p, f, thing int) api.Step     { return api.Step{Kind: api.SCall, P: p, K: f, H: thing} }
func cut(gate int) api.Step             { return api.Step{Kind: api.SCut, G: gate} }
func newGate() api.Step                 { return api.Step{Kind: api.SGate} }

func grant(p, cell, r, gate int) api.Step {
	return api.Step{Kind: api.SGrant, P: p, K: cell, R: r, G: gate}
}

// link gives p a capability of the function f of q.
func link(p, q, f, r, gate int) api.Step {
	return api.Step{Kind: api.SLink, P: p, Q: q, K: f, R: r, G: gate}
}

// value calls a function with a number.
func value(p, f int, n int64) api.Step {
	return api.Step{Kind: api.SCall, P: p, K: f, H: -1, N: n}
}

// module tells the module of a text.
func module(t *testing.T, text string) api.Module {
	t.Helper()
	m, f := parse.Parse(text)
	if f.Code != 0 {
		t.Fatalf("%s: %v", text, f)
	}
	return m
}

// watchOf tells a watch with a plugin of each text; of an empty text there is none.
func watchOf(t *testing.T, texts ...string) *Watch {
	t.Helper()
	w := New()
	for p, text := range texts {
		if text != "" {
			prepare(t, w, load(p, module(t, text)))
		}
	}
	return w
}

// do does a step by which no fault may come.
func do(t *testing.T, w *Watch, x api.Step) api.Event {
	t.Helper()
	e, f := w.Do(x)
	if f != (api.Fault{}) {
		t.Fatalf("%s: the fault %v", describe(x), f)
	}
	return e
}

// prepare does steps that must all come to something.
func prepare(t *testing.T, w *Watch, steps ...api.Step) {
	t.Helper()
	for _, x := range steps {
		if e := do(t, w, x); e.Code != 0 {
			t.Fatalf("%s: the code %d", describe(x), e.Code)
		}
	}
}

// state tells all that may be seen of a house.
func state(h *house.House) string {
	var text strings.Builder
	fmt.Fprintln(&text, "nodes", h.Nodes())
	for k := 0; h.Has(k); k++ {
		fmt.Fprintln(&text, "gate", k, h.Open(k))
	}
	fmt.Fprintln(&text, "cells", h.World.Cells(), h.World.Log())
	for p, x := range h.Plugins {
		fmt.Fprintln(&text, "plugin", p, x.There, x.Code, vals.Text(h.Kept(p)), vals.Text(x.Kept), hand(h, p))
	}
	return text.String()
}

// hand tells the texts of what a plugin was given.
func hand(h *house.House, p int) string {
	var texts []string
	for _, v := range h.Hand(p) {
		texts = append(texts, vals.Text(v))
	}
	return strings.Join(texts, " ")
}

// describe tells a step, but for its module.
func describe(x api.Step) string {
	return fmt.Sprintf("kind %d P %d Q %d K %d H %d R %d G %d N %d", x.Kind, x.P, x.Q, x.K, x.H, x.R, x.G, x.N)
}

func sameEvent(a, b api.Event) bool {
	return a.Code == b.Code && a.Fuel == b.Fuel && vals.Same(a.V, b.V)
}

// want asks for what a step comes to, and in how many steps of a run.
func want(t *testing.T, w *Watch, x api.Step, text string, fuel int) {
	t.Helper()
	e := do(t, w, x)
	if e.Code != 0 || vals.Text(e.V) != text || e.Fuel != fuel {
		t.Errorf("%s: %s in %d, %d, want %s in %d", describe(x), vals.Text(e.V), e.Fuel, e.Code, text, fuel)
	}
}

// wantCode asks for the code of a step, beside which there is nothing but the steps of its run.
func wantCode(t *testing.T, w *Watch, x api.Step, code, fuel int) {
	t.Helper()
	if e := do(t, w, x); !reflect.DeepEqual(e, api.Event{Code: code, Fuel: fuel}) {
		t.Errorf("%s: %v, want the code %d in %d", describe(x), e, code, fuel)
	}
}

// wantRefused asks for the code of a step that does nothing, and by which nobody may do more.
func wantRefused(t *testing.T, w *Watch, x api.Step, code int) {
	t.Helper()
	before, may := state(w.House), mays(w)
	wantCode(t, w, x, code, 0)
	if after := state(w.House); after != before {
		t.Errorf("%s: something was done: %s, before: %s", describe(x), after, before)
	}
	if mays(w) != may {
		t.Errorf("%s: May tells something else behind it", describe(x))
	}
}

// pairOf is a watch, and a house in which the same is done.
type pairOf struct {
	w *Watch
	h *house.House
}

func newPair() pairOf { return pairOf{New(), house.New()} }

// do does a step in both, which must come to the same and leave the same.
func (x pairOf) do(t *testing.T, s api.Step) api.Event {
	t.Helper()
	e, want := do(t, x.w, s), x.h.Do(s)
	if !sameEvent(e, want) {
		t.Fatalf("%s: %v, want %v", describe(s), e, want)
	}
	if !sameHouse(x.w.House, x.h) {
		t.Fatalf("%s: %s, want %s", describe(s), state(x.w.House), state(x.h))
	}
	return e
}

// sameHouse tells whether all that may be seen of two houses is the same.
func sameHouse(a, b *house.House) bool {
	for p := range a.Plugins {
		x, y := a.Plugins[p], b.Plugins[p]
		if x.There != y.There || !slices.EqualFunc(x.Code, y.Code, slices.Equal) || !vals.Same(x.Kept, y.Kept) || !vals.Same(a.Kept(p), b.Kept(p)) || !slices.EqualFunc(a.Hand(p), b.Hand(p), vals.Same) {
			return false
		}
	}
	return slices.Equal(a.Nodes(), b.Nodes()) && slices.Equal(openGates(a), openGates(b)) && slices.Equal(a.World.Cells(), b.World.Cells()) && slices.Equal(a.World.Log(), b.World.Log())
}

// openGates tells of each gate whether it is open.
func openGates(h *house.House) []bool {
	var open []bool
	for k := 0; h.Has(k); k++ {
		open = append(open, h.Open(k))
	}
	return open
}

func TestNew(t *testing.T) {
	w := New()
	if w.House == nil || state(w.House) != state(house.New()) {
		t.Errorf("it is not empty: %s", state(w.House))
	}
	wantMay(t, w, ledger{})
	if w == New() || w.House == New().House {
		t.Error("it is not a new one")
	}
}

// What a watch's house tells is what its steps did, and its steps know what was done to the house.
func TestAWatchIsAHouse(t *testing.T) {
	w := watchOf(t, "fun (write (arg) (num 7))", "fun (keep (arg))")
	want(t, w, newGate(), "0", 0)
	if e := w.House.Do(newGate()); vals.Text(e.V) != "1" || !w.Has(1) {
		t.Errorf("%v, want the gate 1", e)
	}
	want(t, w, newGate(), "2", 0)
	want(t, w, grant(0, 5, api.RWrite, 2), "#0", 0)
	if e := w.House.Do(grant(0, 6, api.RWrite, -1)); vals.Text(e.V) != "#1" {
		t.Errorf("%v, want #1", e)
	}
	if got := hand(w.House, 0); got != "#0 #1" {
		t.Errorf("it was given %s", got)
	}
	want(t, w, call(0, 0, 1), "7", 3)
	want(t, w, value(1, 0, 4), "nil", 2)
	if got := vals.Text(w.Kept(1)); got != "4" {
		t.Errorf("it keeps %s", got)
	}
	w.Cut(2)
	wantCode(t, w, call(0, 0, 0), api.ErrRight, 3)
	if got := w.World.Log(); !slices.Equal(got, []api.Entry{{Cell: 6, Right: api.RWrite, Node: 1}}) {
		t.Errorf("the log is %v", got)
	}
	// What was given by a step of the house was given, too.
	if !w.May(0, 6, api.RWrite) || w.May(1, 6, api.RWrite) {
		t.Error("it is not known what the house gave")
	}
	w.House.Do(link(1, 0, 0, 0, -1))
	if !w.May(1, 6, api.RWrite) {
		t.Error("it is not known whom the house linked")
	}
}

// Each kind of step, with a code and without, as the chapter of the house tells it.
func TestSteps(t *testing.T) {
	w := New()
	m := module(t, "fun (keep (arg)) fun (read (arg)) fun (write (kept) (arg)) fun (ask (arg) (num 6))")
	want(t, w, newGate(), "0", 0)
	want(t, w, load(1, m), "nil", 0)
	wantRefused(t, w, load(4, m), api.ErrRange)
	wantRefused(t, w, load(1, api.Module{}), api.ErrMany)
	wantRefused(t, w, load(1, api.Module{Funcs: []api.Expr{{Op: 99}}}), api.ErrKind)
	want(t, w, grant(1, 3, api.RRead|api.RWrite, 0), "#0", 0)
	wantRefused(t, w, grant(1, 12, 3, 0), api.ErrRange)
	wantRefused(t, w, grant(1, 3, 3, 1), api.ErrNone)
	want(t, w, link(1, 2, 0, api.RAsk, -1), "#1", 0)
	wantRefused(t, w, link(1, 4, 0, api.RAsk, -1), api.ErrRange)
	wantRefused(t, w, link(1, 2, 0, api.RAsk, 1), api.ErrNone)
	want(t, w, call(1, 0, 0), "nil", 2)
	want(t, w, value(1, 2, 8), "8", 3)
	want(t, w, call(1, 1, 0), "8", 2)
	wantCode(t, w, value(1, 1, 8), api.ErrKind, 2)
	wantCode(t, w, call(1, 1, 1), api.ErrRight, 2)
	wantCode(t, w, call(1, 3, 1), api.ErrNone, 3)
	wantRefused(t, w, call(1, 4, 1), api.ErrNone)
	wantRefused(t, w, call(1, 0, 2), api.ErrNone)
	wantRefused(t, w, value(4, 0, 2), api.ErrRange)
	want(t, w, load(2, module(t, "fun (seal (arg))")), "nil", 0)
	want(t, w, call(1, 3, 1), "[2 6]", 5)
	want(t, w, cut(0), "nil", 0)
	wantRefused(t, w, cut(1), api.ErrNone)
	wantCode(t, w, call(1, 1, 0), api.ErrRight, 2)
	wantRefused(t, w, api.Step{}, api.ErrKind)
	want(t, w, newGate(), "1", 0)
	if got := w.World.Log(); !slices.Equal(got, []api.Entry{{Plugin: 1, Cell: 3, Right: 2}, {Plugin: 1, Cell: 3, Right: 1}}) || w.World.Cells()[3] != 8 {
		t.Errorf("the log is %v, the cells hold %v", got, w.World.Cells())
	}
}

func TestNoSuchKind(t *testing.T) {
	w := watchOf(t, "fun (keep (arg))", "fun (arg)")
	prepare(t, w, newGate(), grant(0, 1, api.RAll, 0), link(0, 1, 0, api.RAll, 0), value(0, 0, 5))
	kinds := append([]int{-6, -5, -4, -3, -1, 0, 7, 8, 257, 258, 259, 260, 261, 262, 1<<32 + 3, 1<<32 + 4, 1<<32 + 5, 1<<32 + 6}, far...)
	for _, kind := range kinds {
		// Whatever stands beside the kind: nothing is given by it, either.
		for _, x := range []api.Step{
			{}, load(0, module(t, "fun (nil)")), grant(2, 7, 15, 0), link(3, 1, 0, 15, 0), call(0, 0, 0), value(0, 0, 6), cut(0), newGate(),
			{P: -1, Q: -1, K: -1, H: -1, R: -1, G: -1, N: -1}, {P: 4, Q: 4, K: 12, H: 2, R: 16, G: 1},
		} {
			x.Kind = kind
			wantRefused(t, w, x, api.ErrKind)
		}
	}
}

// set lets one of a step's numbers be another one.
func set(x api.Step, field, n int) api.Step {
	if field == 7 {
		x.N = int64(n)
		return x
	}
	*[]*int{&x.Kind, &x.P, &x.Q, &x.K, &x.H, &x.R, &x.G}[field] = n
	return x
}

// Numbers that are far too great or below 0, wherever a number is.
func TestNumbersThatAreNone(t *testing.T) {
	m := module(t, "fun (keep (arg)) fun (read (kept))")
	begin := []api.Step{load(0, m), load(1, m), newGate(), newGate(), cut(1), grant(0, 1, api.RAll, 0), link(0, 1, 0, api.RAll, -1), call(0, 0, 0)}
	for _, x := range []api.Step{load(2, m), grant(2, 2, 3, 0), link(2, 3, 1, 15, 0), call(0, 0, 1), value(0, 1, 5), cut(0), newGate()} {
		for field := range 8 {
			for _, n := range append([]int{-1, 4, 6, 12, 13, 16, 20, 80}, far...) {
				both, l := newPair(), ledger{}
				for _, x := range append(slices.Clone(begin), set(x, field, n), value(0, 1, 0)) {
					l.note(x, both.do(t, x))
				}
				if got, want := mays(both.w), l.mays(); got != want {
					t.Errorf("%s: May tells %s, want %s", describe(set(x, field, n)), got, want)
				}
			}
		}
	}
}

// The examples of the document.
func TestExamples(t *testing.T) {
	w := watchOf(t, "fun (read (narrow 1 (arg))) fun (write (narrow 1 (arg)) (num 1)) fun (seal (arg)) fun (open (seal (arg))) fun (keep (arg)) fun (ask (arg) (kept))",
		"fun (let (read (arg)) (keep (arg))) fun (read (kept)) fun (open (arg))")
	prepare(t, w, newGate(), grant(0, 3, api.RRead|api.RWrite|api.RPass, -1), link(0, 1, 0, api.RAsk, 0), link(0, 1, 2, api.RAsk, -1))
	want(t, w, call(0, 0, 0), "0", 3)
	wantCode(t, w, call(0, 1, 0), api.ErrRight, 4)
	want(t, w, call(0, 2, 0), "[0 #0]", 2)
	want(t, w, call(0, 3, 0), "#0", 3)
	want(t, w, call(0, 4, 0), "nil", 2)
	want(t, w, call(0, 5, 1), "nil", 8)
	want(t, w, value(1, 1, 0), "0", 2)
	prepare(t, w, cut(0))
	wantCode(t, w, call(0, 5, 1), api.ErrRight, 3)
	wantCode(t, w, value(1, 1, 0), api.ErrRight, 2)
	// What one plugin sealed the other one does not open.
	prepare(t, w, load(0, module(t, "fun (ask (arg) (seal (num 1)))")))
	wantCode(t, w, call(0, 0, 2), api.ErrSeal, 6)
}
