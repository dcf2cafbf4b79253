package watch

import (
	"fmt"
	"math/rand"
	"reflect"
	"runtime/debug"
	"slices"
	"testing"

	"letterlock/api"
	"letterlock/code"
	"letterlock/vals"
)

// memory tells where all elements of all lists of a value lie, with those behind the lists' lengths.
func memory(v api.Val) []*api.Val {
	var all []*api.Val
	l := v.L[:cap(v.L)]
	for i := range l {
		all = append(all, &l[i])
		if i < len(v.L) {
			all = append(all, memory(l[i])...)
		}
	}
	return all
}

// shares tells whether some of these values share memory, or lists of one of them do.
func shares(things ...api.Val) bool {
	met := make(map[*api.Val]bool)
	for _, v := range things {
		for _, p := range memory(v) {
			if met[p] {
				return true
			}
			met[p] = true
		}
	}
	return false
}

// overwrite changes all that lies in a list, and behind its length.
func overwrite(l []api.Val) {
	l = l[:cap(l)]
	for i := range l {
		overwrite(l[i].L)
		l[i] = api.Val{Kind: api.VGate, N: 99, L: []api.Val{{}}}
	}
}

// remembering are functions that come to what is kept, or keep what they come to, in many ways.
var remembering = []string{
	"fun (kept)", "fun (pair (kept) (kept))", "fun (let (keep (pair (arg) (seal (arg)))) (kept))", "fun (keep (pair (kept) (arg)))",
	"fun (let (pair (arg) (arg)) (let (keep (pair (var 0) (var 0))) (pair (var 1) (kept))))", "fun (let (keep (seal (kept))) (open (kept)))",
	"fun (let (keep (pair (kept) (kept))) (kept))", "fun (let (keep (seal (arg))) (pair (kept) (kept)))",
}

// What was answered may be changed: nothing of the watch changes with it.
func TestAnswersAreNewMemory(t *testing.T) {
	for _, text := range remembering {
		for _, x := range []api.Step{value(1, 0, 5), call(1, 0, 0)} {
			w, twin := watchOf(t, "", text), watchOf(t, "", text)
			prepare(t, w, grant(1, 3, 15, -1))
			prepare(t, twin, grant(1, 3, 15, -1))
			for range 4 {
				e, plain := do(t, w, x), do(t, twin, x)
				kept, again := w.Kept(1), w.Kept(1)
				if shares(e.V, kept, again, w.Plugins[1].Kept) {
					t.Fatalf("%s: answers share memory", text)
				}
				if !sameEvent(e, plain) {
					t.Errorf("%s: %v, want %v", text, e, plain)
				}
				for _, l := range [][]api.Val{e.V.L, kept.L, again.L, w.Hand(1)} {
					overwrite(l)
				}
				if state(w.House) != state(twin.House) || mays(w) != mays(twin) {
					t.Fatalf("%s: %s, want %s", text, state(w.House), state(twin.House))
				}
			}
		}
	}
}

// spoil changes all that a watch tells in lists of its own.
func spoil(w *Watch) {
	for p := range api.MaxPlugins {
		overwrite(w.Hand(p))
		overwrite(w.Kept(p).L)
	}
	nodes := w.Nodes()
	for i := range nodes {
		nodes[i] = api.Node{Parent: -1, Gate: -1, Rights: api.RAll, Plugin: -1}
	}
	log := w.World.Log()
	for i := range log {
		log[i] = api.Entry{Plugin: 77, Cell: 77, Right: 77, Node: 77}
	}
	cells := w.World.Cells()
	for i := range cells {
		cells[i] = 77
	}
}

func TestManyAnswersThatAreChanged(t *testing.T) {
	r := rand.New(rand.NewSource(6))
	for range 30 {
		w, twin := New(), New()
		for _, x := range newScript(t, r).steps(100) {
			e, plain := do(t, w, x), do(t, twin, x)
			if !sameEvent(e, plain) || shares(e.V, w.Plugins[0].Kept, w.Plugins[1].Kept, w.Plugins[2].Kept, w.Plugins[3].Kept) {
				t.Fatalf("%s: %v, want %v", describe(x), e, plain)
			}
			overwrite(e.V.L)
			spoil(w)
			if !sameHouse(w.House, twin.House) {
				t.Fatalf("%s: %s, want %s", describe(x), state(w.House), state(twin.House))
			}
		}
		if mays(w) != mays(twin) {
			t.Error("May tells something else, where answers were changed")
		}
	}
}

// What was answered stays as it was, whatever is done then.
func TestAnswersStay(t *testing.T) {
	w := watchOf(t, "fun (let (keep (pair (arg) (seal (kept)))) (kept)) fun (keep (nil))")
	prepare(t, w, grant(0, 3, 15, -1))
	var all []api.Event
	var texts []string
	for i := range 6 {
		all = append(all, do(t, w, value(0, 0, int64(i))))
		texts = append(texts, vals.Text(all[i].V))
	}
	prepare(t, w, value(0, 1, 0), load(0, module(t, "fun (nil)")))
	for i, e := range all {
		if vals.Text(e.V) != texts[i] || len(texts[i]) < 10*i {
			t.Errorf("%s, ahead %s", vals.Text(e.V), texts[i])
		}
	}
}

func TestEventsOfARunAreNewMemory(t *testing.T) {
	for _, text := range remembering {
		l := append([]api.Step{load(1, module(t, text)), grant(1, 3, 15, -1)}, slices.Repeat([]api.Step{call(1, 0, 0), value(1, 0, 5)}, 3)...)
		all, again := events(t, l), events(t, l)
		var things []api.Val
		for _, e := range slices.Concat(all, again) {
			things = append(things, e.V)
		}
		if shares(things...) {
			t.Fatalf("%s: events share memory", text)
		}
		for i := range all {
			overwrite(all[i].V.L)
			all[i] = api.Event{Code: 99}
		}
		if !sameEvents(events(t, l), again) {
			t.Errorf("%s: it comes to something else", text)
		}
	}
}

// places tells all expressions in a list.
func places(l []api.Expr) []*api.Expr {
	var all []*api.Expr
	for i := range l {
		all = append(all, &l[i])
		all = append(all, places(l[i].L)...)
	}
	return all
}

// ownSteps tells steps like those in memory of their own.
func ownSteps(l []api.Step) []api.Step {
	own := slices.Clone(l)
	for i := range own {
		own[i].M = code.Own(own[i].M)
	}
	return own
}

func sameSteps(a, b []api.Step) bool {
	return slices.EqualFunc(a, b, func(a, b api.Step) bool { return describe(a) == describe(b) && code.Same(a.M, b.M) })
}

// What is handed in stays as it was, and may be changed behind the step.
func TestStepsAreNotKept(t *testing.T) {
	r := rand.New(rand.NewSource(7))
	for range 30 {
		l := newScript(t, r).steps(100)
		own := ownSteps(l)
		w, twin := New(), New()
		for i, x := range l {
			e, plain := do(t, w, x), do(t, twin, own[i])
			if !sameEvent(e, plain) || !code.Same(x.M, own[i].M) {
				t.Fatalf("%s: %v, want %v", describe(x), e, plain)
			}
			for _, e := range places(x.M.Funcs) {
				*e = api.Expr{Op: api.ENum, N: 99}
			}
		}
		if !sameHouse(w.House, twin.House) || mays(w) != mays(twin) {
			t.Fatal("the watch changed with a module")
		}
		// Likewise of a run.
		l = ownSteps(own)
		all := events(t, l)
		if !sameSteps(l, own) {
			t.Fatal("the steps of a script were changed")
		}
		for i := range l {
			l[i] = api.Step{Kind: api.SGate}
		}
		if !sameEvents(all, events(t, own)) {
			t.Fatal("the events changed with the script")
		}
	}
}

// What lies behind a list's length is no part of it, and stays as it was.
func TestBehindTheLength(t *testing.T) {
	exprs := func() []api.Expr {
		return append(slices.Repeat([]api.Expr{{Op: api.EArg}}, 3), slices.Repeat([]api.Expr{{Op: 99}}, 200)...)
	}
	l := exprs()
	w := New()
	want(t, w, load(0, api.Module{Funcs: l[:2]}), "nil", 0)
	want(t, w, value(0, 1, 5), "5", 1)
	wantCode(t, w, value(0, 2, 5), api.ErrNone, 0)
	want(t, w, load(0, api.Module{Funcs: []api.Expr{{Op: api.EPair, L: l[:2]}, {Op: api.EArg, L: l[3:3]}}}), "nil", 0)
	want(t, w, value(0, 0, 5), "(5 5)", 3)
	wantRefused(t, w, load(0, api.Module{Funcs: l[:0]}), api.ErrMany)
	if !reflect.DeepEqual(l, exprs()) {
		t.Error("what lies behind a module's length was changed")
	}
	steps := func() []api.Step {
		return append(counting(t, 4), slices.Repeat([]api.Step{newGate()}, 2*api.MaxSteps)...)
	}
	all := steps()
	if got := events(t, all[:4]); !sameEvents(got, events(t, counting(t, 4))) || !sameSteps(all, steps()) {
		t.Error("what lies behind a script's length was read or changed")
	}
}

// nested tells an expression that stands in so many others.
func nested(depth, op int, e api.Expr) api.Expr {
	for range depth {
		e = api.Expr{Op: op, L: slices.Repeat([]api.Expr{e}, max(code.Parts(op), 1))}
	}
	return e
}

// inSelf tells a list of expressions each of which has that list in it.
func inSelf(size, op int) []api.Expr {
	l := make([]api.Expr, size)
	for i := range l {
		l[i] = api.Expr{Op: op, L: l}
	}
	return l
}

// Modules that share memory, hold themselves, or are far too deep or wide, where the stack is small.
func TestWildModules(t *testing.T) {
	before := debug.SetMaxStack(1 << 20)
	defer debug.SetMaxStack(before)
	arg := api.Expr{Op: api.EArg}
	w := watchOf(t, "fun (keep (arg))")
	prepare(t, w, newGate(), grant(0, 3, 15, 0), link(0, 1, 0, 15, -1), value(0, 0, 5))
	for _, x := range []struct {
		funcs []api.Expr
		code  int
	}{
		{nil, api.ErrMany}, {[]api.Expr{}, api.ErrMany}, {make([]api.Expr, 1), api.ErrKind}, {slices.Repeat([]api.Expr{arg}, 7), api.ErrMany}, {slices.Repeat([]api.Expr{arg}, 300000), api.ErrMany},
		{inSelf(1, api.EFst), api.ErrDeep}, {inSelf(2, api.EPair), api.ErrDeep}, {inSelf(3, api.EIf), api.ErrDeep}, {inSelf(7, api.EFst), api.ErrMany}, {inSelf(5, 99), api.ErrDeep},
		{[]api.Expr{nested(31, api.EFst, arg)}, api.ErrDeep}, {[]api.Expr{nested(300000, api.EFst, arg)}, api.ErrDeep}, {[]api.Expr{nested(30, api.EPair, arg)}, api.ErrMany},
		{[]api.Expr{arg, nested(300000, api.EPair, arg)}, api.ErrDeep}, {[]api.Expr{{Op: 99, L: inSelf(1000, 99)}}, api.ErrDeep},
	} {
		m := api.Module{Funcs: x.funcs}
		for p := range api.MaxPlugins {
			wantRefused(t, w, load(p, m), x.code)
		}
		wantRefused(t, w, load(4, m), api.ErrRange)
		// A step that needs no module goes on, whatever module is in it.
		y := value(0, 0, 6)
		y.M = m
		if e := do(t, w, y); e.Code != 0 || e.Fuel != 2 {
			t.Errorf("%v", e)
		}
		if all := events(t, []api.Step{load(0, m), newGate(), {M: m}, {Kind: api.SGrant, R: 1, G: 0, M: m}}); all[0].Code != x.code || all[1].Code != 0 || all[2].Code != api.ErrKind || vals.Text(all[3].V) != "#0" {
			t.Errorf("%v", all)
		}
	}
}

// What stands in memory once, and in modules more often, is there as often.
func TestModulesThatShareMemory(t *testing.T) {
	steps := make([]api.Expr, 4)
	steps[0] = api.Expr{Op: api.EArg}
	steps[1] = api.Expr{Op: api.ESeal, L: steps[:1]}
	steps[2] = api.Expr{Op: api.EPair, L: steps[:2]}
	steps[3] = api.Expr{Op: api.EIf, L: steps[:3]}
	w := New()
	prepare(t, w, load(1, api.Module{Funcs: steps}), load(2, api.Module{Funcs: steps}))
	for p := 1; p < 3; p++ {
		want(t, w, value(p, 2, 5), fmt.Sprintf("(5 [%d 5])", p), 4)
		want(t, w, value(p, 3, 5), fmt.Sprintf("[%d 5]", p), 4)
		want(t, w, value(p, 3, 0), fmt.Sprintf("(0 [%d 0])", p), 6)
	}
	other := New()
	m := module(t, "fun (keep (arg))")
	prepare(t, w, load(3, m))
	prepare(t, other, load(3, m), value(3, 0, 7))
	if vals.Text(w.Kept(3)) != "nil" || vals.Text(other.Kept(3)) != "7" {
		t.Error("watches share what is kept")
	}
}

func TestListsThatAreEmpty(t *testing.T) {
	empty := []api.Expr{}
	nils := []api.Step{load(0, api.Module{Funcs: []api.Expr{{Op: api.EKeep, L: []api.Expr{{Op: api.EArg}}}}}), load(1, api.Module{}), value(0, 0, 5)}
	empties := []api.Step{load(0, api.Module{Funcs: []api.Expr{{Op: api.EKeep, L: []api.Expr{{Op: api.EArg, L: empty}}}}}), load(1, api.Module{Funcs: empty}), value(0, 0, 5)}
	empties[2].M.Funcs = make([]api.Expr, 0, 3)
	if a, b := events(t, nils), events(t, empties); !sameEvents(a, b) || a[0].Code != 0 || a[1].Code != api.ErrMany {
		t.Errorf("%v, %v", a, b)
	}
}
