package house

import (
	"fmt"
	"math"
	"reflect"
	"runtime/debug"
	"slices"
	"strings"
	"testing"

	"letterlock/api"
	"letterlock/compile"
)

var arg = api.Expr{Op: api.EArg}

func of(op int, l ...api.Expr) api.Expr { return api.Expr{Op: op, L: l} }
func fst(e api.Expr) api.Expr           { return of(api.EFst, e) }
func args(n int) []api.Expr             { return slices.Repeat([]api.Expr{arg}, n) }

func with(e api.Expr, k int, n int64) api.Expr {
	e.K, e.N = k, n
	return e
}

// inFst tells an expression that stands in so many others.
func inFst(depth int, e api.Expr) api.Expr {
	for range depth {
		e = fst(e)
	}
	return e
}

// inLets tells an expression in which so many names are open.
func inLets(depth int, e api.Expr) api.Expr {
	for range depth {
		e = of(api.ELet, arg, e)
	}
	return e
}

// doubledExpr tells an expression of which every list stands in memory once, and is there twice as often as that around it.
func doubledExpr(depth int, e api.Expr) api.Expr {
	for range depth {
		e = of(api.EPair, e, e)
	}
	return e
}

// inSelf tells a list of expressions each of which has that list in it.
func inSelf(size, op int) []api.Expr {
	l := make([]api.Expr, size)
	for i := range l {
		l[i] = api.Expr{Op: op, L: l}
	}
	return l
}

// sized tells an expression of so many parts that is not deep.
func sized(parts int) api.Expr {
	switch parts {
	case 1:
		return arg
	case 2:
		return fst(arg)
	}
	left := (parts - 1) / 2
	return of(api.EPair, sized(left), sized(parts-1-left))
}

// bins tells an expression of n others that are added up, two by two: so it is not deep. It has n - 1 parts more than these.
func bins(n int, one string) string {
	if n == 1 {
		return one
	}
	return "(bin add " + bins(n/2, one) + " " + bins(n-n/2, one) + ")"
}

// wrong are functions that are none, each with its code.
var wrong = []struct {
	what string
	f    api.Expr
	code int
}{
	{"no kind", of(0), api.ErrKind},
	{"no kind inside", fst(of(api.EKept + 1)), api.ErrKind},
	{"an instruction", of(compile.OTick), api.ErrKind},
	{"a kind far below", of(math.MinInt), api.ErrKind},
	{"too few in it", of(api.EFst), api.ErrForm},
	{"too many in it", of(api.EPair, args(3)...), api.ErrForm},
	{"one in it", of(api.ENil, arg), api.ErrForm},
	{"an N", with(arg, 0, 1), api.ErrForm},
	{"a K", with(arg, 1, 0), api.ErrForm},
	{"no name", of(api.EVar), api.ErrRange},
	{"a name below 0", of(api.ELet, arg, with(of(api.EVar), -1, 0)), api.ErrRange},
	{"no arithmetic", with(of(api.EBin, arg, arg), 6, 0), api.ErrRange},
	{"no rights", with(of(api.ENarrow, arg), 16, 0), api.ErrRange},
	{"no function", with(of(api.ECall, arg), 6, 0), api.ErrRange},
	{"a function far above", with(of(api.ECall, arg), math.MaxInt, 0), api.ErrRange},
	{"too many names", inLets(api.MaxLets+1, arg), api.ErrMany},
	{"too many parts", sized(api.MaxParts + 1), api.ErrMany},
	{"too deep", inFst(api.MaxDeep+1, arg), api.ErrDeep},
	{"too deep, and no kind", inFst(api.MaxDeep+1, of(0)), api.ErrDeep},
	{"shared too often", doubledExpr(api.MaxDeep, arg), api.ErrMany},
	{"shared too often, deep", doubledExpr(300, arg), api.ErrDeep},
	{"in itself", inSelf(1, api.EFst)[0], api.ErrDeep},
	{"in itself twice", inSelf(2, api.EPair)[1], api.ErrDeep},
	{"wide", of(api.EPair, args(100000)...), api.ErrMany},
}

func TestLoad(t *testing.T) {
	for p := range api.MaxPlugins {
		h := New()
		m := module(t, fmt.Sprintf("fun (pair (arg) (num %d)) fun (seal (arg))", p))
		want(t, h, load(p, m), "nil", 0)
		made, _ := compile.Make(m)
		for other, x := range h.Plugins {
			if x.There != (other == p) || other == p && !reflect.DeepEqual(x.Code, made) || other != p && x.Code != nil {
				t.Errorf("%d was loaded, and %d is %v", p, other, x)
			}
			wantKept(t, h, other, "nil")
		}
		want(t, h, value(p, 0, 5), fmt.Sprintf("(5 %d)", p), 3)
		want(t, h, value(p, 1, 5), fmt.Sprintf("[%d 5]", p), 2)
		if len(h.Nodes()) != 0 || h.Has(0) || len(h.World.Log()) != 0 {
			t.Errorf("loading did more than that: %s", state(h))
		}
	}
}

// What a step of loading comes to has nothing in it.
func TestLoadTellsNothing(t *testing.T) {
	h := New()
	if e := h.Do(load(0, module(t, "fun (num 4)"))); !reflect.DeepEqual(e, api.Event{}) {
		t.Errorf("%v", e)
	}
}

func TestLoadTheGreatestModules(t *testing.T) {
	for what, m := range map[string]api.Module{
		"functions": {Funcs: args(api.MaxFuncs)},
		"parts":     {Funcs: []api.Expr{sized(api.MaxParts)}},
		"depth":     {Funcs: []api.Expr{inFst(api.MaxDeep, arg)}},
		"names":     {Funcs: []api.Expr{inLets(api.MaxLets, with(of(api.EVar), api.MaxLets-1, 0))}},
	} {
		h := New()
		want(t, h, load(3, m), "nil", 0)
		if made, f := compile.Make(m); f.Code != 0 || !h.Plugins[3].There || !reflect.DeepEqual(h.Plugins[3].Code, made) {
			t.Errorf("%s: %v was loaded", what, h.Plugins[3])
		}
	}
}

func TestLoadNoPlugin(t *testing.T) {
	h := houseOf(t, "fun (keep (arg))", "fun (keep (arg))", "fun (keep (arg))", "fun (keep (arg))")
	for p := range api.MaxPlugins {
		prepare(t, h, grant(p, p, api.RAll, -1), value(p, 0, 5))
	}
	for _, p := range noPlugins {
		wantRefused(t, h, load(p, module(t, "fun (nil)")), api.ErrRange)
		// Ahead of what is wrong with the module.
		wantRefused(t, h, load(p, api.Module{}), api.ErrRange)
		for _, x := range wrong {
			wantRefused(t, h, load(p, api.Module{Funcs: []api.Expr{x.f}}), api.ErrRange)
		}
	}
}

// loaded tells a house in which one plugin was loaded, and another one was not.
func loaded(t *testing.T) *House {
	t.Helper()
	h := houseOf(t, "", "fun (keep (arg)) fun (kept)")
	prepare(t, h, newGate(), grant(1, 3, api.RAll, 0), grant(0, 3, api.RAll, -1), link(0, 1, 0, api.RAll, -1), value(1, 0, 5))
	return h
}

func TestLoadWhatIsNoModule(t *testing.T) {
	h := loaded(t)
	for _, p := range []int{0, 1} {
		for _, x := range wrong {
			for at := range 3 {
				m := api.Module{Funcs: args(3)}
				m.Funcs[at] = x.f
				wantRefused(t, h, load(p, m), x.code)
				// The code of an earlier function is told.
				for later := at + 1; later < 3; later++ {
					m.Funcs[later] = with(of(api.ENarrow, arg), -1, 0)
					wantRefused(t, h, load(p, m), x.code)
				}
			}
			if t.Failed() {
				t.Fatal(x.what)
			}
			// How many functions there are is told first.
			wantRefused(t, h, load(p, api.Module{Funcs: append(args(api.MaxFuncs), x.f)}), api.ErrMany)
		}
		wantRefused(t, h, load(p, api.Module{}), api.ErrMany)
		wantRefused(t, h, load(p, api.Module{Funcs: []api.Expr{}}), api.ErrMany)
		wantRefused(t, h, load(p, api.Module{Funcs: args(3)[:0]}), api.ErrMany)
		wantRefused(t, h, load(p, api.Module{Funcs: args(api.MaxFuncs + 1)}), api.ErrMany)
		wantRefused(t, h, load(p, api.Module{Funcs: inSelf(api.MaxFuncs+1, api.EFst)}), api.ErrMany)
		wantRefused(t, h, load(p, api.Module{Funcs: inSelf(2, api.EPair)}), api.ErrDeep)
	}
	// What was loaded ahead is there, and keeps what it kept; what was not is not.
	want(t, h, value(1, 1, 0), "5", 1)
	want(t, h, call(1, 0, 0), "5", 2)
	wantCode(t, h, value(0, 0, 1), api.ErrNone, 0)
	prepare(t, h, load(0, module(t, "fun (ask (arg) (num 1))")))
	want(t, h, call(1, 0, 0), "#0", 2)
}

// Modules that are deeper or wider than calls can be open, where the stack is small.
func TestLoadEnds(t *testing.T) {
	before := debug.SetMaxStack(1 << 20)
	defer debug.SetMaxStack(before)
	const many = 300000
	h := loaded(t)
	for _, f := range []api.Expr{inFst(many, arg), inLets(many, arg), doubledExpr(many, arg), inSelf(1000, 99)[0], inSelf(3, api.EIf)[2]} {
		wantRefused(t, h, load(1, api.Module{Funcs: []api.Expr{arg, f}}), api.ErrDeep)
	}
	wide := of(99, slices.Repeat([]api.Expr{of(99, args(1000)...)}, 1000)...)
	wantRefused(t, h, load(1, api.Module{Funcs: []api.Expr{wide}}), api.ErrMany)
	wantRefused(t, h, load(1, api.Module{Funcs: args(many)}), api.ErrMany)
}

func TestLoadAnew(t *testing.T) {
	keeping := "fun (keep (arg)) fun (kept) fun (arg)"
	h := houseOf(t, keeping, keeping, keeping)
	prepare(t, h, newGate(), grant(0, 1, api.RAll, 0), grant(1, 2, api.RAll, -1), link(1, 0, 2, api.RAll, 0), grant(2, 3, api.RAll, -1))
	prepare(t, h, call(0, 0, 0), value(1, 0, 6), call(2, 0, 0))
	nodes, log := h.Nodes(), h.World.Log()
	want(t, h, load(1, module(t, "fun (pair (kept) (arg)) fun (keep (num 9))")), "nil", 0)
	wantKept(t, h, 0, "#0")
	wantKept(t, h, 1, "nil")
	wantKept(t, h, 2, "#3")
	wantHand(t, h, 0, "#0")
	wantHand(t, h, 1, "#1 #2")
	wantHand(t, h, 2, "#3")
	if !slices.Equal(h.Nodes(), nodes) || !slices.Equal(h.World.Log(), log) || !h.Open(0) || h.Has(1) {
		t.Errorf("loading did more than that: %s", state(h))
	}
	want(t, h, call(1, 0, 1), "(nil #2)", 3)
	want(t, h, value(1, 1, 0), "nil", 2)
	want(t, h, value(1, 0, 4), "(9 4)", 3)
	// The function that it had is no more.
	wantCode(t, h, value(1, 2, 4), api.ErrNone, 0)
	want(t, h, value(2, 1, 0), "#3", 1)
	// The same module anew forgets what was kept, too.
	prepare(t, h, load(2, module(t, keeping)))
	wantKept(t, h, 2, "nil")
	want(t, h, call(2, 0, 0), "nil", 2)
	want(t, h, call(2, 1, 0), "#3", 1)
}

// A plugin may be loaded many times, and is what it was loaded as last.
func TestLoadAgainAndAgain(t *testing.T) {
	h := New()
	prepare(t, h, grant(2, 4, api.RAll, -1))
	for i := range 100 {
		funcs := 1 + i%api.MaxFuncs
		prepare(t, h, load(2, module(t, strings.Repeat(fmt.Sprintf("fun (keep (num %d)) ", i), funcs))))
		want(t, h, call(2, funcs-1, 0), "nil", 2)
		wantKept(t, h, 2, fmt.Sprint(i))
		wantCode(t, h, call(2, funcs, 0), api.ErrNone, 0)
	}
	wantHand(t, h, 2, "#0")
}

// Who was loaded ahead, or is loaded twice, makes no difference to the others.
func TestLoadOneModuleTwice(t *testing.T) {
	h := New()
	m := module(t, "fun (keep (seal (arg)))")
	for p := range api.MaxPlugins {
		prepare(t, h, load(p, m))
	}
	for p := range api.MaxPlugins {
		want(t, h, value(p, 0, int64(p)), "nil", 3)
	}
	for p := range api.MaxPlugins {
		wantKept(t, h, p, fmt.Sprintf("[%d %d]", p, p))
	}
}
