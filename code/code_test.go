package code

import (
	"fmt"
	"math"
	"math/rand"
	"reflect"
	"runtime/debug"
	"slices"
	"testing"

	"letterlock/api"
	"letterlock/tree"
)

// has tells how many expressions each kind has in it, by the document's words.
var has = map[int]int{
	api.ENil: 0, api.ENum: 0, api.EArg: 0, api.EVar: 0, api.EKept: 0,
	api.EFst: 1, api.ESnd: 1, api.ESeal: 1, api.EOpen: 1, api.ERead: 1, api.ENarrow: 1, api.EWrap: 1, api.ECut: 1, api.ECall: 1, api.EKeep: 1,
	api.ELet: 2, api.EBin: 2, api.EPair: 2, api.EWrite: 2, api.EAsk: 2,
	api.EIf: 3,
}

// noKinds are just outside and far outside; some of them are a kind in their low bits.
var noKinds = []int{
	0, api.EKept + 1, -1, api.EKept + 2, -api.EIf, 100, 255, 256, 256 + api.EArg, 1 << 32, 1<<32 + api.EArg,
	math.MaxInt, math.MinInt, math.MinInt + api.EArg,
}

// farOff are numbers that no kind takes as K, below and above those that some take.
var farOff = []int{
	-1, -2, -5, -16, -256, -1 << 31, -1 << 32, math.MinInt, math.MinInt + 1,
	16, 17, 255, 256, 257, 1 << 31, 1 << 32, 1<<32 + 1, math.MaxInt - 1, math.MaxInt,
}

var arg = api.Expr{Op: api.EArg}

func num(n int64) api.Expr                { return api.Expr{Op: api.ENum, N: n} }
func name(k int) api.Expr                 { return api.Expr{Op: api.EVar, K: k} }
func of(op int, l ...api.Expr) api.Expr   { return api.Expr{Op: op, L: l} }
func let(a, b api.Expr) api.Expr          { return of(api.ELet, a, b) }
func pair(a, b api.Expr) api.Expr         { return of(api.EPair, a, b) }
func bin(k int, a, b api.Expr) api.Expr   { return api.Expr{Op: api.EBin, K: k, L: []api.Expr{a, b}} }
func narrow(k int, e api.Expr) api.Expr   { return api.Expr{Op: api.ENarrow, K: k, L: []api.Expr{e}} }
func call(k int, e api.Expr) api.Expr     { return api.Expr{Op: api.ECall, K: k, L: []api.Expr{e}} }
func module(funcs ...api.Expr) api.Module { return api.Module{Funcs: funcs} }
func withK(e api.Expr, k int) api.Expr    { e.K = k; return e }
func withN(e api.Expr, n int64) api.Expr  { e.N = n; return e }
func args(n int) []api.Expr               { return slices.Repeat([]api.Expr{arg}, n) }

// fault tells that code at that number; no fault, if the code is 0.
func fault(code, at int) api.Fault {
	if code == 0 {
		return api.Fault{}
	}
	return api.Fault{Code: code, At: at}
}

func inLets(depth int, e api.Expr) api.Expr {
	return wrapped(depth, e, func(e api.Expr) api.Expr { return let(arg, e) })
}

func inFst(depth int, e api.Expr) api.Expr {
	return wrapped(depth, e, func(e api.Expr) api.Expr { return of(api.EFst, e) })
}

func wrapped(depth int, e api.Expr, in func(api.Expr) api.Expr) api.Expr {
	for range depth {
		e = in(e)
	}
	return e
}

// doubled tells an expression of which every list stands in memory once, and is there twice as often as that around it.
func doubled(depth int, e api.Expr) api.Expr {
	return wrapped(depth, e, func(e api.Expr) api.Expr { return pair(e, e) })
}

// inSelf tells a list of so many expressions, each of which has that list in it.
func inSelf(size, op int) []api.Expr {
	l := make([]api.Expr, size)
	for i := range l {
		l[i] = of(op, l...)
	}
	return l
}

// right tells an expression of that kind in which nothing is wrong, but for an EVar outside of an ELet.
func right(op int) api.Expr {
	e := of(op, args(has[op])...)
	if op == api.EBin {
		e.K = api.KAdd
	}
	return e
}

// sized tells an expression of so many parts that is not deep.
func sized(parts int) api.Expr {
	switch parts {
	case 1:
		return arg
	case 2:
		return of(api.EFst, arg)
	}
	left := (parts - 1) / 2
	return pair(sized(left), sized(parts-1-left))
}

// deep is deeper than calls can be open, where the stack is small.
const deep = 300000

func smallStack(t *testing.T) {
	before := debug.SetMaxStack(1 << 20)
	t.Cleanup(func() { debug.SetMaxStack(before) })
}

// told tells a module, unless that is too much to read.
func told(m api.Module) string {
	if tree.HasMore(m.Funcs, 100, inside) {
		return "a great module"
	}
	return fmt.Sprint(m)
}

func wantCheck(t *testing.T, m api.Module, want api.Fault) {
	t.Helper()
	if got := Check(m); got != want {
		t.Errorf("Check = %v, want %v, of %s", got, want, told(m))
	}
}

// wantCode checks an expression that is a function, and that stands in others where no name is open, in each function of a module of three.
func wantCode(t *testing.T, e api.Expr, code int) {
	t.Helper()
	for _, f := range []api.Expr{
		e, of(api.EFst, e), pair(e, arg), pair(arg, e), of(api.EIf, arg, arg, e), of(api.EIf, arg, e, arg),
		of(api.EWrite, of(api.ESnd, e), arg), let(e, arg), call(1, bin(api.KMul, num(3), of(api.ECut, e))),
	} {
		for at := range 3 {
			m := module(num(1), num(2), num(3))
			m.Funcs[at] = f
			wantCheck(t, m, fault(code, at))
		}
	}
}

func TestParts(t *testing.T) {
	for op := -300; op <= 300; op++ {
		want, ok := has[op]
		if !ok {
			want = -1
		}
		if got := Parts(op); got != want {
			t.Errorf("Parts(%d) = %d, want %d", op, got, want)
		}
	}
	for _, op := range noKinds {
		if got := Parts(op); got != -1 {
			t.Errorf("Parts(%d) = %d, want -1", op, got)
		}
	}
}

// everyKind tells a module of which nothing is wrong, with expressions of all kinds.
func everyKind() api.Module {
	return module(
		let(of(api.EWrap, arg), let(of(api.EFst, name(0)), pair(name(1), of(api.ECut, of(api.ESnd, name(1)))))),
		of(api.EIf, bin(api.KLess, of(api.ERead, arg), num(math.MinInt64)), of(api.EWrite, narrow(3, arg), num(-1)), of(api.ENil)),
		pair(of(api.ESeal, of(api.EKeep, arg)), of(api.EOpen, of(api.EKept))),
		of(api.EAsk, call(0, arg), call(3, num(math.MaxInt64))),
	)
}

func TestCheckModules(t *testing.T) {
	m := everyKind()
	wantCheck(t, m, api.Fault{})
	if !reflect.DeepEqual(m, everyKind()) {
		t.Error("Check changed what was handed in")
	}
	for op := range has {
		if op != api.EVar {
			wantCode(t, right(op), 0)
		}
	}
	for _, e := range []api.Expr{
		num(-1), num(math.MinInt64), num(math.MaxInt64), let(arg, name(0)), let(arg, let(name(0), pair(name(0), name(1)))),
		{Op: api.EArg, L: []api.Expr{}}, {Op: api.ENum, N: 5, L: []api.Expr{}}, of(api.EKeep, api.Expr{Op: api.EKept, L: []api.Expr{}}),
	} {
		wantCode(t, e, 0)
	}
}

func TestCheckCountsFunctions(t *testing.T) {
	for n := range 20 {
		want := api.Fault{}
		if n < 1 || n > api.MaxFuncs {
			want = fault(api.ErrMany, -1)
		}
		wantCheck(t, module(args(n)...), want)
	}
	wantCheck(t, api.Module{Funcs: nil}, fault(api.ErrMany, -1))
	wantCheck(t, api.Module{Funcs: []api.Expr{}}, fault(api.ErrMany, -1))
	wantCheck(t, module(args(api.MaxFuncs + 5)[:api.MaxFuncs]...), api.Fault{})
	wantCheck(t, module(args(deep)...), fault(api.ErrMany, -1))
	wantCheck(t, module(slices.Repeat([]api.Expr{{Op: 99}}, api.MaxFuncs+1)...), fault(api.ErrMany, -1))
	wantCheck(t, module(slices.Repeat([]api.Expr{inFst(100, arg)}, api.MaxFuncs+1)...), fault(api.ErrMany, -1))
}

func TestCheckDepth(t *testing.T) {
	for depth := api.MaxDeep - 2; depth <= api.MaxDeep+2; depth++ {
		want := 0
		if depth > api.MaxDeep {
			want = api.ErrDeep
		}
		for op, parts := range has {
			if op == api.ELet { // so many names are not open
				continue
			}
			for i := range parts {
				e := wrapped(depth, arg, func(e api.Expr) api.Expr {
					around := right(op)
					around.L[i] = e
					return around
				})
				wantCheck(t, module(arg, e, arg), fault(want, 1))
			}
		}
	}
}

func TestCheckCountsParts(t *testing.T) {
	for parts := api.MaxParts - 3; parts <= api.MaxParts+3; parts++ {
		want := 0
		if parts > api.MaxParts {
			want = api.ErrMany
		}
		for _, f := range []api.Expr{
			sized(parts),
			of(api.ESeal, of(api.ESeal, sized(parts-2))),
			pair(sized(parts-2), arg),
			pair(arg, sized(parts-2)),
			of(api.EIf, arg, sized(50), sized(parts-52)),
			let(sized(60), sized(parts-61)),
			inFst(api.MaxDeep-8, sized(parts-api.MaxDeep+8)),
		} {
			for at := range api.MaxFuncs {
				m := module(slices.Repeat([]api.Expr{sized(api.MaxParts)}, api.MaxFuncs)...)
				m.Funcs[at] = f
				wantCheck(t, m, fault(want, at))
			}
		}
	}
	wantCheck(t, module(doubled(5, arg)), api.Fault{})
	wantCheck(t, module(doubled(6, arg)), fault(api.ErrMany, 0))
	wantCheck(t, module(arg, doubled(30, arg)), fault(api.ErrMany, 1))
}

// Of each kind, and of none, all that is in L counts, and how deep it is.
func TestCheckCountsAheadOfAllElse(t *testing.T) {
	ops := slices.Clone(noKinds)
	for op := range has {
		ops = append(ops, op)
	}
	for _, op := range ops {
		code := api.ErrForm
		if _, ok := has[op]; !ok {
			code = api.ErrKind
		}
		wantCheck(t, module(of(op, args(api.MaxParts-1)...)), fault(code, 0))
		wantCheck(t, module(of(op, args(api.MaxParts)...)), fault(api.ErrMany, 0))
		wantCheck(t, module(of(op, args(5000)...)), fault(api.ErrMany, 0))
		wantCheck(t, module(pair(arg, of(op, args(api.MaxParts-3)...))), fault(code, 0))
		wantCheck(t, module(pair(arg, of(op, args(api.MaxParts-2)...))), fault(api.ErrMany, 0))
		wantCheck(t, module(of(op, arg, arg, arg, arg, inFst(api.MaxDeep-1, arg))), fault(code, 0))
		wantCheck(t, module(of(op, arg, arg, arg, arg, inFst(api.MaxDeep, arg))), fault(api.ErrDeep, 0))
		wantCheck(t, module(of(op, append(args(5000), inFst(api.MaxDeep, arg))...)), fault(api.ErrDeep, 0))
		wantCheck(t, module(of(op, append([]api.Expr{inFst(api.MaxDeep, arg)}, args(5000)...)...)), fault(api.ErrDeep, 0))
	}
}

func TestCheckKinds(t *testing.T) {
	for _, op := range noKinds {
		for parts := range 5 {
			for _, k := range []int{0, 1, -1, math.MaxInt} {
				for _, n := range []int64{0, 1, math.MinInt64} {
					wantCode(t, api.Expr{Op: op, K: k, N: n, L: args(parts)}, api.ErrKind)
				}
			}
		}
	}
}

func TestCheckForms(t *testing.T) {
	for op, parts := range has {
		for n := range 6 {
			e := right(op)
			e.L = args(n)
			want := 0
			if n != parts {
				want = api.ErrForm
			}
			if op == api.EVar && n == 0 {
				e, want = let(arg, e), 0
			}
			wantCode(t, e, want)
			// What is wrong with N and K, too, is named behind it.
			if n != parts {
				wantCode(t, withK(e, -1), api.ErrForm)
				wantCode(t, withN(e, -1), api.ErrForm)
			}
		}
	}
}

func TestCheckNumbers(t *testing.T) {
	for op := range has {
		for _, n := range []int64{1, -1, 2, 1 << 31, 1 << 32, -1 << 32, math.MinInt64, math.MaxInt64} {
			want := api.ErrForm
			if op == api.ENum {
				want = 0
			}
			e := withN(right(op), n)
			wantCode(t, e, want)
			wantCode(t, let(arg, e), want)
			// An N that is not 0 is named ahead of a K.
			wantCode(t, withK(e, -1), api.ErrForm)
		}
	}
}

// Of the kinds that take no K.
func TestCheckOtherK(t *testing.T) {
	for op := range has {
		switch op {
		case api.EVar, api.EBin, api.ENarrow, api.ECall:
			continue
		}
		for _, k := range append([]int{1, 2, 3, 5, 15}, farOff...) {
			wantCode(t, withK(right(op), k), api.ErrForm)
			wantCode(t, let(arg, withK(right(op), k)), api.ErrForm)
		}
	}
}

func wantK(t *testing.T, with func(k int) api.Expr, low, high int) {
	t.Helper()
	for k := -2; k <= 20; k++ {
		want := api.ErrRange
		if k >= low && k <= high {
			want = 0
		}
		wantCode(t, with(k), want)
	}
	for _, k := range farOff {
		wantCode(t, with(k), api.ErrRange)
	}
}

func TestCheckArithmetic(t *testing.T) {
	wantK(t, func(k int) api.Expr { return bin(k, arg, num(1)) }, api.KAdd, api.KEq)
}

func TestCheckRights(t *testing.T) {
	wantK(t, func(k int) api.Expr { return narrow(k, arg) }, 0, api.RAll)
}

func TestCheckCalls(t *testing.T) {
	wantK(t, func(k int) api.Expr { return call(k, arg) }, 0, 2) // wantCode's modules have three functions
	for funcs := 1; funcs <= api.MaxFuncs; funcs++ {
		for at := range funcs {
			for k := -1; k <= api.MaxFuncs+1; k++ {
				m := module(args(funcs)...)
				m.Funcs[at] = pair(arg, call(k, arg))
				want := api.Fault{}
				if k < 0 || k >= funcs {
					want = fault(api.ErrRange, at)
				}
				wantCheck(t, m, want)
			}
		}
	}
}

func TestCheckNames(t *testing.T) {
	wantK(t, name, 0, -1)
	wantK(t, func(k int) api.Expr { return let(arg, name(k)) }, 0, 0)
	wantK(t, func(k int) api.Expr { return let(name(k), arg) }, 0, -1)
	wantK(t, func(k int) api.Expr { return let(arg, let(name(k), name(1))) }, 0, 0)
	wantK(t, func(k int) api.Expr { return let(arg, let(name(0), name(k))) }, 0, 1)
	// Behind an ELet its name is open no longer.
	wantK(t, func(k int) api.Expr { return pair(let(arg, name(0)), name(k)) }, 0, -1)
	wantK(t, func(k int) api.Expr { return let(let(arg, name(0)), name(k)) }, 0, 0)
	wantK(t, func(k int) api.Expr { return let(let(let(arg, name(0)), name(k)), arg) }, 0, 0)
	wantK(t, func(k int) api.Expr { return let(arg, pair(let(arg, let(arg, name(2))), name(k))) }, 0, 0)
	// It is open in all that stands in the second one.
	wantK(t, func(k int) api.Expr { return let(arg, of(api.EIf, arg, arg, of(api.EFst, pair(arg, name(k))))) }, 0, 0)
	wantK(t, func(k int) api.Expr { return let(arg, call(0, let(arg, bin(api.KSub, arg, name(k))))) }, 0, 1)
	for open := range api.MaxLets {
		wantK(t, func(k int) api.Expr { return inLets(open, name(k)) }, 0, open-1)
	}
}

func TestCheckNamesAtTheMost(t *testing.T) {
	most := api.MaxLets
	for k, want := range map[int]api.Fault{-1: fault(api.ErrRange, 0), 0: {}, most - 1: {}, most: fault(api.ErrRange, 0)} {
		wantCheck(t, module(inLets(most, name(k))), want)
	}
	many := fault(api.ErrMany, 0)
	wantCheck(t, module(inLets(most, arg)), api.Fault{})
	wantCheck(t, module(inLets(most+1, arg)), many)
	wantCheck(t, module(inLets(most+2, arg)), many)
	wantCheck(t, module(inLets(2*most, arg)), many)
	wantCheck(t, module(arg, inLets(most, arg), inLets(most+1, arg)), fault(api.ErrMany, 2))
	wantCheck(t, module(inLets(most, pair(arg, let(arg, arg)))), many)
	wantCheck(t, module(inLets(most-1, let(let(arg, name(most-1)), name(most-1)))), api.Fault{})
	wantCheck(t, module(inLets(most-1, let(let(let(arg, arg), arg), arg))), api.Fault{})
	wantCheck(t, module(inLets(most-1, let(let(arg, let(arg, arg)), arg))), many)
	// An ELet that is the first one of another opens its name no deeper.
	firsts := wrapped(api.MaxDeep, arg, func(e api.Expr) api.Expr { return let(e, arg) })
	wantCheck(t, module(firsts), api.Fault{})
	// Names of functions ahead are open no longer.
	wantCheck(t, module(inLets(most, arg), inLets(most, arg), name(0)), fault(api.ErrRange, 2))
	// An ELet that opens one too many: what is wrong with its form is named ahead of it, what is in it behind it.
	wantCheck(t, module(inLets(most, of(api.ELet, arg))), fault(api.ErrForm, 0))
	wantCheck(t, module(inLets(most, withN(let(arg, arg), 1))), fault(api.ErrForm, 0))
	wantCheck(t, module(inLets(most, withK(let(arg, arg), 1))), fault(api.ErrForm, 0))
	wantCheck(t, module(inLets(most, let(api.Expr{}, name(-1)))), many)
}

// Of one expression that has several faults, the first is told that the document names.
func TestCheckFirstOfOne(t *testing.T) {
	for _, c := range []struct {
		e    api.Expr
		code int
	}{
		{api.Expr{Op: 22, K: 1, N: 1, L: args(3)}, api.ErrKind},
		{api.Expr{Op: api.EVar, K: -1, L: args(1)}, api.ErrForm},
		{api.Expr{Op: api.EVar, K: -1, N: 1}, api.ErrForm},
		{api.Expr{Op: api.EBin, K: 6}, api.ErrForm},
		{api.Expr{Op: api.EBin, K: 6, N: 1, L: args(2)}, api.ErrForm},
		{api.Expr{Op: api.ENarrow, K: 16, L: args(2)}, api.ErrForm},
		{api.Expr{Op: api.ENarrow, K: 16, N: 1, L: args(1)}, api.ErrForm},
		{api.Expr{Op: api.ECall, K: -1, L: args(0)}, api.ErrForm},
		{api.Expr{Op: api.ECall, K: -1, N: 1, L: args(1)}, api.ErrForm},
	} {
		wantCode(t, c.e, c.code)
	}
}

func TestCheckOuterFirstFromTheLeft(t *testing.T) {
	kind, form, low := api.Expr{}, api.Expr{Op: api.EArg, N: 1}, name(0)
	for _, c := range []struct {
		e    api.Expr
		code int
	}{
		{pair(kind, form), api.ErrKind},
		{pair(form, kind), api.ErrForm},
		{pair(low, kind), api.ErrRange},
		{pair(arg, pair(low, kind)), api.ErrRange},
		{of(api.EIf, arg, form, low), api.ErrForm},
		{of(api.EIf, arg, low, form), api.ErrRange},
		{of(api.EIf, low, form, kind), api.ErrRange},
		{narrow(16, kind), api.ErrRange},
		{bin(0, form, kind), api.ErrRange},
		{call(9, form), api.ErrRange},
		{withK(of(api.EFst, kind), 1), api.ErrForm},
		{withN(pair(low, kind), 1), api.ErrForm},
		{of(api.EPair, low, arg, kind), api.ErrForm},
		{of(api.EArg, kind), api.ErrForm},
		{of(0, form), api.ErrKind},
		// All that is in a left one comes ahead of what stands right of it.
		{pair(of(api.EFst, of(api.EFst, low)), kind), api.ErrRange},
		{pair(pair(arg, form), low), api.ErrForm},
		{pair(narrow(-1, kind), form), api.ErrRange},
		{let(let(arg, kind), low), api.ErrKind},
	} {
		wantCode(t, c.e, c.code)
	}
}

func TestCheckEarlierFunctionFirst(t *testing.T) {
	wrong := []struct {
		f    api.Expr
		code int
	}{
		{api.Expr{}, api.ErrKind},
		{of(api.EFst), api.ErrForm},
		{name(0), api.ErrRange},
		{sized(api.MaxParts + 1), api.ErrMany},
		{inLets(api.MaxLets+1, arg), api.ErrMany},
		{inFst(api.MaxDeep+1, arg), api.ErrDeep},
		{pair(inFst(api.MaxDeep, arg), sized(api.MaxParts)), api.ErrDeep},
		{pair(sized(api.MaxParts), inFst(api.MaxDeep, arg)), api.ErrDeep},
		{pair(api.Expr{}, inFst(api.MaxDeep, api.Expr{})), api.ErrDeep},
		{pair(api.Expr{}, sized(api.MaxParts)), api.ErrMany},
	}
	for _, a := range wrong {
		for _, b := range wrong {
			wantCheck(t, module(a.f, b.f), fault(a.code, 0))
			wantCheck(t, module(arg, a.f, b.f), fault(a.code, 1))
			wantCheck(t, module(arg, arg, arg, a.f, arg, b.f), fault(a.code, 3))
		}
		wantCheck(t, module(arg, arg, arg, arg, arg, a.f), fault(a.code, 5))
	}
}

// What lies behind a list's length is no part of it.
func TestCheckLooksAtTheLengthAlone(t *testing.T) {
	l := append(args(2), slices.Repeat([]api.Expr{{Op: 99}}, 200)...)
	wantCheck(t, module(api.Expr{Op: api.EPair, L: l[:2]}), api.Fault{})
	wantCheck(t, module(api.Expr{Op: api.EArg, L: l[:0]}), api.Fault{})
	wantCheck(t, module(api.Expr{Op: api.EPair, L: l[:3]}), fault(api.ErrForm, 0))
	wantCheck(t, api.Module{Funcs: l[:2]}, api.Fault{})
	wantCheck(t, api.Module{Funcs: l[:3]}, fault(api.ErrKind, 2))
}

func TestCheckEnds(t *testing.T) {
	smallStack(t)
	for _, f := range []api.Expr{
		inSelf(1, api.EFst)[0], inSelf(2, api.EPair)[0], inSelf(1000, 99)[0],
		inFst(deep, arg), inLets(deep, arg), doubled(200, arg), doubled(api.MaxDeep+1, arg),
	} {
		wantCheck(t, module(arg, f), fault(api.ErrDeep, 1))
	}
	wide := of(99, slices.Repeat([]api.Expr{of(99, args(1000)...)}, 1000)...)
	for _, f := range []api.Expr{doubled(api.MaxDeep, arg), wide} {
		wantCheck(t, module(f), fault(api.ErrMany, 0))
	}
	wantCheck(t, api.Module{Funcs: inSelf(2, api.EPair)}, fault(api.ErrDeep, 0))
}

// various are modules of which no two are the same; not in all of them nothing is wrong.
func various() []api.Module {
	all := []api.Module{
		{}, everyKind(), module(arg, num(1)), module(num(1), arg), module(pair(arg, arg)), module(pair(arg, arg), arg),
		module(args(2)...), module(args(api.MaxFuncs)...), module(args(api.MaxFuncs + 1)...), module(args(1000)...),
		module(of(0)), module(of(99)), module(of(math.MinInt)), module(of(1 << 32)), module(of(256 + api.EArg)),
		module(num(1)), module(num(-1)), module(num(1 << 32)), module(num(math.MinInt64)), module(num(math.MaxInt64)),
		module(name(0)), module(name(1)), module(name(-1)), module(name(1 << 32)), module(withN(arg, 1)), module(withK(arg, 1)),
		module(api.Expr{Op: api.ENum, K: 1, N: 2}), module(api.Expr{Op: api.ENum, K: 2, N: 1}),
		module(pair(num(1), num(2))), module(pair(num(2), num(1))), module(pair(num(1), arg)), module(bin(1, arg, arg)), module(bin(2, arg, arg)),
		module(withN(pair(arg, arg), 1)), module(withK(pair(arg, arg), 1)), module(of(api.EPair, arg)), module(of(api.EPair, arg, arg, arg)),
		module(pair(pair(arg, arg), arg)), module(pair(arg, pair(arg, arg))), module(pair(of(api.EFst, arg), arg)), module(pair(arg, of(api.EFst, arg))),
		module(inFst(30, arg)), module(inFst(31, arg)), module(inFst(30, num(0))), module(inFst(30, of(api.ENil))), module(of(api.ESnd, inFst(29, arg))),
		module(inFst(5000, arg)), module(inFst(5000, num(0))), module(inFst(5001, arg)), module(arg, arg, arg, inFst(20, name(3))), module(arg, arg, arg, inFst(20, name(4))),
		module(sized(99)), module(sized(100)), module(doubled(8, arg)), module(doubled(8, num(0))),
	}
	for op := range api.EKept {
		all = append(all, module(arg, arg, of(op+1, arg)), module(arg, arg, of(op+1, num(1), withK(arg, 1))))
	}
	return all
}

func TestSame(t *testing.T) {
	a, b := various(), various()
	for i := range a {
		for j := range b {
			if got := Same(a[i], b[j]); got != (i == j) {
				t.Errorf("Same of %d and %d: %v", i, j, got)
			}
		}
		if !Same(a[i], a[i]) {
			t.Errorf("%d is not the same as itself", i)
		}
	}
}

func TestSameNilAndEmpty(t *testing.T) {
	if !Same(api.Module{}, api.Module{Funcs: []api.Expr{}}) || !Same(api.Module{Funcs: make([]api.Expr, 0, 3)}, api.Module{}) {
		t.Error("no functions are not the same as no functions")
	}
	for op := -1; op <= api.EKept+1; op++ {
		a := api.Expr{Op: op, K: 1, N: 3, L: nil}
		b := api.Expr{Op: op, K: 1, N: 3, L: make([]api.Expr, 0, 2)}
		if !Same(module(a), module(b)) || !Same(module(b), module(a)) || !Same(module(arg, pair(a, b)), module(arg, pair(b, a))) {
			t.Errorf("kind %d: nil and empty are not the same", op)
		}
	}
}

func TestSameLooksAtTheLengthAlone(t *testing.T) {
	a := []api.Expr{num(1), num(2), num(3)}
	b := []api.Expr{num(1), num(2), num(4), num(5)}
	if !Same(api.Module{Funcs: a[:2]}, api.Module{Funcs: b[:2]}) || !Same(module(of(1, a[:2]...)), module(of(1, b[:2]...))) {
		t.Error("what lies behind the length was looked at")
	}
	if Same(api.Module{Funcs: a}, api.Module{Funcs: a[:2]}) || Same(module(of(1, a[:2]...)), module(of(1, a...))) {
		t.Error("lists of one memory, but not of one length, are the same")
	}
}

// Modules that are deeper than calls can be open, or that are in themselves, or that have more parts than there is time for.
func TestSameEnds(t *testing.T) {
	smallStack(t)
	for _, c := range []struct {
		what string
		a, b api.Module
		want bool
	}{
		{"deep", module(inFst(deep, arg)), module(inFst(deep, arg)), true},
		{"deep, but for the last one", module(inFst(deep, arg)), module(inFst(deep, num(0))), false},
		{"deep, but not as deep", module(inLets(deep, arg)), module(inLets(deep+1, arg)), false},
		{"wide", module(args(deep)...), module(args(deep)...), true},
		{"wide, but for the last one", module(args(deep)...), module(append(args(deep-1), num(0))...), false},
		{"doubled", module(doubled(200, arg)), module(doubled(200, arg)), true},
		{"doubled, but for the last ones", module(doubled(200, arg)), module(doubled(200, num(0))), false},
		{"in itself", module(inSelf(1, api.EFst)...), module(inSelf(1, api.EFst)...), true},
		{"in itself, of another kind", module(inSelf(1, api.EFst)...), module(inSelf(1, api.ESnd)...), false},
		{"in itself, in one more", module(inSelf(1, api.EFst)...), module(of(api.EFst, inSelf(1, api.EFst)...)), true},
		{"in itself, and not", module(inSelf(1, api.EFst)...), module(inFst(100, arg)), false},
		{"in itself often", module(inSelf(2000, 7)...), module(inSelf(2000, 7)...), true},
		{"in itself often, and more often", module(inSelf(2000, 7)...), module(inSelf(2001, 7)...), false},
	} {
		if got := Same(c.a, c.b); got != c.want {
			t.Errorf("%s: %v", c.what, got)
		}
		if got := Same(c.b, c.a); got != c.want {
			t.Errorf("%s, the other way round: %v", c.what, got)
		}
	}
}

// places tells the memory of all expressions of a module, the outer ones first, from the left.
func places(l []api.Expr) []*api.Expr {
	var all []*api.Expr
	for i := range l {
		all = append(all, &l[i])
		all = append(all, places(l[i].L)...)
	}
	return all
}

// plain makes a list anew, in which empty lists are nil, so that such can be held against each other as they lie in memory.
func plain(l []api.Expr) []api.Expr {
	var anew []api.Expr
	for _, e := range l {
		e.L = plain(e.L)
		anew = append(anew, e)
	}
	return anew
}

func wantOwn(t *testing.T, what string, m api.Module) {
	t.Helper()
	before := plain(m.Funcs)
	own := Own(m)
	if !reflect.DeepEqual(plain(m.Funcs), before) {
		t.Errorf("%s: Own changed what was handed in", what)
	}
	if !reflect.DeepEqual(plain(own.Funcs), before) {
		t.Errorf("%s: Own answered another one: %s", what, told(own))
	}
	met := make(map[*api.Expr]bool)
	for _, p := range places(own.Funcs) {
		if met[p] {
			t.Errorf("%s: two lists of the answer share memory", what)
		}
		met[p] = true
	}
	for _, p := range places(m.Funcs) {
		if met[p] {
			t.Errorf("%s: the answer shares memory with what was handed in", what)
		}
	}
}

func TestOwn(t *testing.T) {
	for i, m := range various() {
		wantOwn(t, fmt.Sprint(i), m)
	}
	both := pair(num(1), of(api.EFst, name(3)))
	l := []api.Expr{both, arg, both}
	for i, m := range []api.Module{
		{Funcs: []api.Expr{}}, {Funcs: make([]api.Expr, 0, 5)}, module(api.Expr{Op: api.EArg, L: []api.Expr{}}),
		module(both, both), module(pair(both, both), both), module(doubled(6, both)), {Funcs: l}, {Funcs: l[:2]},
		module(of(api.EIf, l...), pair(l[0], l[1])), module(of(1, l...), of(2, l[:2]...), of(3, l[1:]...)),
	} {
		wantOwn(t, fmt.Sprint("further ", i), m)
	}
}

func TestOwnIsNotChangedByWhatWasHandedIn(t *testing.T) {
	m := everyKind()
	own := Own(m)
	for i, p := range places(m.Funcs) {
		*p = api.Expr{Op: p.Op + 1, K: p.K + i, N: p.N + 1, L: p.L}
		slices.Reverse(p.L)
	}
	m.Funcs[0] = arg
	if !Same(own, everyKind()) {
		t.Error("what was answered is another one now")
	}
}

func TestOwnMayBeChanged(t *testing.T) {
	m := everyKind()
	first, second := Own(m), Own(m)
	for _, p := range places(first.Funcs) {
		p.Op, p.K, p.N = 77, 78, 79
		p.L = append(p.L, arg)
	}
	first.Funcs = append(first.Funcs, arg)
	if !Same(m, everyKind()) || !Same(second, everyKind()) || !Same(Own(m), everyKind()) {
		t.Error("what was answered is not memory of its own")
	}
}

func TestOwnLeavesWhatIsBehindTheLength(t *testing.T) {
	l := []api.Expr{num(1), num(2), num(3), num(4)}
	own := Own(api.Module{Funcs: l[:2]})
	own.Funcs = append(own.Funcs, num(9))
	own = Own(module(api.Expr{Op: api.EPair, L: l[:2]}, api.Expr{Op: api.EArg, L: l[:0]}))
	own.Funcs[0].L = append(own.Funcs[0].L, num(9))
	own.Funcs[1].L = append(own.Funcs[1].L, num(9))
	own = Own(api.Module{Funcs: l[:0]})
	own.Funcs = append(own.Funcs, num(9))
	if !reflect.DeepEqual(l, []api.Expr{num(1), num(2), num(3), num(4)}) {
		t.Errorf("the memory is %v now", l)
	}
}

// There is an end to it, also of what has no end or more parts than there is room for.
func TestOwnEnds(t *testing.T) {
	smallStack(t)
	for i, m := range []api.Module{
		module(inFst(deep, arg)), module(inLets(deep, arg)), module(args(deep)...), module(arg, doubled(200, arg)),
		{Funcs: inSelf(1, api.EFst)}, {Funcs: inSelf(3, api.EIf)}, module(arg, inSelf(2, api.EPair)[0]), {Funcs: inSelf(2000, 9)},
	} {
		own := Own(m)
		if !Same(own, m) {
			t.Errorf("%d: Own answered another one", i)
		}
		for a, b, n := own.Funcs, m.Funcs, 0; len(a) > 0 && n < 1000; n++ {
			if &a[0] == &b[0] {
				t.Fatalf("%d: the answer shares memory with what was handed in", i)
			}
			a, b = a[len(a)-1].L, b[len(b)-1].L
		}
	}
}

// checked tells what is wrong with a module, by the document's words, each on its own.
func checked(m api.Module) api.Fault {
	if n := len(m.Funcs); n == 0 || n > 6 {
		return fault(api.ErrMany, -1)
	}
	for at, f := range m.Funcs {
		deepest, parts := 0, 0
		var measure func(e api.Expr, around int)
		measure = func(e api.Expr, around int) {
			deepest, parts = max(deepest, around), parts+1
			for _, inner := range e.L {
				measure(inner, around+1)
			}
		}
		measure(f, 0)
		if deepest > 30 {
			return fault(api.ErrDeep, at)
		}
		if parts > 120 {
			return fault(api.ErrMany, at)
		}
		if code := wrong(f, 0, len(m.Funcs)); code != 0 {
			return fault(code, at)
		}
	}
	return api.Fault{}
}

func wrong(e api.Expr, open, funcs int) int {
	parts, ok := has[e.Op]
	if !ok {
		return api.ErrKind
	}
	if len(e.L) != parts || e.Op != api.ENum && e.N != 0 {
		return api.ErrForm
	}
	most := map[int]int{api.EVar: open - 1, api.EBin: 5, api.ENarrow: 15, api.ECall: funcs - 1}
	least := map[int]int{api.EBin: 1}
	if high, ok := most[e.Op]; ok {
		if e.K < least[e.Op] || e.K > high {
			return api.ErrRange
		}
	} else if e.K != 0 {
		return api.ErrForm
	}
	if e.Op == api.ELet && open == 12 {
		return api.ErrMany
	}
	for i, inner := range e.L {
		here := open
		if e.Op == api.ELet && i == 1 {
			here = open + 1
		}
		if code := wrong(inner, here, funcs); code != 0 {
			return code
		}
	}
	return 0
}

// random tells an expression of at most so many parts, in which hardly anything is wrong.
func random(r *rand.Rand, parts, open, funcs int) api.Expr {
	op := 1 + r.Intn(api.EKept)
	if r.Intn(4) == 0 {
		op = api.ELet
	}
	for has[op] >= parts {
		op = 1 + r.Intn(api.EKept)
	}
	e := api.Expr{Op: op}
	switch op {
	case api.ENum:
		e.N = r.Int63n(9) - 4
	case api.EVar:
		if open == 0 {
			return arg
		}
		e.K = r.Intn(open)
	case api.EBin:
		e.K = 1 + r.Intn(5)
	case api.ENarrow:
		e.K = r.Intn(16)
	case api.ECall:
		e.K = r.Intn(funcs)
	}
	for i := range has[op] {
		here := open
		if op == api.ELet && i == 1 {
			here++
		}
		e.L = append(e.L, random(r, (parts-1)/has[op], here, funcs))
	}
	return e
}

func randomModule(r *rand.Rand) api.Module {
	m := api.Module{}
	funcs := 1 + r.Intn(api.MaxFuncs)
	for range funcs {
		m.Funcs = append(m.Funcs, random(r, 1+r.Intn(2*api.MaxParts), 0, funcs))
	}
	return m
}

// spoil changes one thing of one expression, a little.
func spoil(r *rand.Rand, e *api.Expr) {
	switch r.Intn(6) {
	case 0:
		e.Op += r.Intn(7) - 3
	case 1:
		e.K += r.Intn(5) - 2
	case 2:
		e.N += r.Int63n(3) - 1
	case 3:
		e.L = append(slices.Clone(e.L), arg)
	case 4:
		e.L = e.L[:len(e.L)/2]
	case 5:
		*e = inFst(r.Intn(api.MaxDeep), *e)
	}
}

// What Check tells of modules that are right, and of such as are spoilt in some places, is what the document says, word by word.
func TestCheckGoesByTheDocument(t *testing.T) {
	r := rand.New(rand.NewSource(5))
	told := make(map[int]int)
	for range 30000 {
		m := randomModule(r)
		for range r.Intn(3) {
			all := places(m.Funcs)
			spoil(r, all[r.Intn(len(all))])
		}
		want := checked(m)
		told[want.Code]++
		if got := Check(m); got != want {
			t.Fatalf("Check = %v, want %v, of %v", got, want, m)
		}
	}
	for _, code := range []int{0, api.ErrKind, api.ErrForm, api.ErrRange, api.ErrMany, api.ErrDeep} {
		if told[code] < 200 {
			t.Errorf("code %d was told %d times only", code, told[code])
		}
	}
}

// One expression is changed: the module is the same no longer; and Own tells a like one either way.
func TestOneIsChanged(t *testing.T) {
	r := rand.New(rand.NewSource(6))
	for i := range 3000 {
		m := randomModule(r)
		wantOwn(t, fmt.Sprint(i), m)
		own := Own(m)
		if !Same(m, own) || !Same(own, m) {
			t.Fatalf("%v is not the same as its own", m)
		}
		all := places(own.Funcs)
		before := fmt.Sprint(own)
		spoil(r, all[r.Intn(len(all))])
		if changed := fmt.Sprint(own) != before; Same(m, own) == changed || Same(own, m) == changed {
			t.Fatalf("%v and %v: changed is %v", m, own, changed)
		}
	}
}
