package house

import (
	"fmt"
	"reflect"
	"slices"
	"testing"

	"letterlock/api"
	"letterlock/code"
	"letterlock/vals"
)

// memory tells where all elements of all lists of a value lie, with those behind the lists' lengths.
func memory(v api.Val) []*api.Val {
	var all []*api.Val
	l := v.L[:cap(v.L)]
	for i := range l {
		all = append(all, &l[i])
		if i < len(v.L) {
			all = append(all, memory(l[i])...)
		}
	}
	return all
}

// shares tells whether some of these values share memory, or lists of one of them do.
func shares(things ...api.Val) bool {
	met := make(map[*api.Val]bool)
	for _, v := range things {
		for _, p := range memory(v) {
			if met[p] {
				return true
			}
			met[p] = true
		}
	}
	return false
}

// overwrite changes all that lies in a list, and behind its length.
func overwrite(l []api.Val) {
	l = l[:cap(l)]
	for i := range l {
		overwrite(l[i].L)
		l[i] = api.Val{Kind: api.VGate, N: 99, L: []api.Val{{}}}
	}
}

func TestHandIsNewMemory(t *testing.T) {
	h := houseOf(t, "fun (arg)")
	var earlier [][]api.Val
	for n := range 20 {
		prepare(t, h, grant(0, n%api.MaxCells, 15, -1))
		earlier = append(earlier, h.Hand(0))
		overwrite(h.Hand(0))
		overwrite(h.Hand(0)[:0])
		for i := range n + 1 {
			want(t, h, call(0, 0, i), fmt.Sprint("#", i), 1)
		}
	}
	// Lists that were answered ahead are as they were, and know nothing of each other.
	for n, l := range earlier {
		for i, v := range l {
			if len(l) != n+1 || !reflect.DeepEqual(v, api.Val{Kind: api.VCap, N: int64(i)}) {
				t.Fatalf("%v was told behind %d steps", l, n+1)
			}
		}
		overwrite(l)
	}
	for i := range earlier {
		want(t, h, call(0, 0, i), fmt.Sprint("#", i), 1)
	}
}

// remembering are functions that come to what is kept, or keep what they come to, in many ways.
var remembering = []string{
	"fun (kept)", "fun (pair (kept) (kept))", "fun (let (keep (pair (arg) (seal (arg)))) (kept))", "fun (keep (pair (kept) (arg)))",
	"fun (let (pair (arg) (arg)) (let (keep (pair (var 0) (var 0))) (pair (var 1) (kept))))", "fun (let (keep (seal (kept))) (open (kept)))",
	"fun (let (keep (pair (kept) (kept))) (kept))", "fun (let (keep (seal (arg))) (pair (kept) (kept)))",
}

func TestKeptAndEventsAreNewMemory(t *testing.T) {
	for _, text := range remembering {
		for _, x := range []api.Step{value(1, 0, 5), call(1, 0, 0)} {
			h, twin := houseOf(t, "", text), houseOf(t, "", text)
			for _, h := range []*House{h, twin} {
				prepare(t, h, grant(1, 3, 15, -1))
			}
			for range 4 {
				e, plain := h.Do(x), twin.Do(x)
				first, second := h.Kept(1), h.Kept(1)
				if shares(e.V, first, second, h.Plugins[1].Kept) {
					t.Fatalf("%s: answers share memory", text)
				}
				if e.Code != plain.Code || !vals.Same(e.V, plain.V) {
					t.Errorf("%s: %v, want %v", text, e, plain)
				}
				// What was answered may be changed: nothing of the house changes with it.
				for _, v := range []api.Val{e.V, first, second} {
					overwrite(v.L)
				}
				if state(h) != state(twin) {
					t.Fatalf("%s: %s, want %s", text, state(h), state(twin))
				}
			}
		}
	}
}

// What was answered stays as it was, whatever is done then.
func TestAnswersStay(t *testing.T) {
	h := houseOf(t, "fun (keep (pair (arg) (seal (kept)))) fun (keep (nil))")
	prepare(t, h, grant(0, 3, 15, -1), value(0, 0, 5), call(0, 0, 0))
	kept, given := h.Kept(0), h.Hand(0)
	e := h.Do(value(0, 0, 6))
	text := vals.Text(e.V)
	prepare(t, h, value(0, 0, 7), grant(0, 4, 15, -1), value(0, 1, 0), load(0, module(t, "fun (nil)")))
	if vals.Text(kept) != "(#0 [0 (5 [0 nil])])" || text != "(#0 [0 (5 [0 nil])])" || vals.Text(e.V) != text || len(given) != 1 || vals.Text(given[0]) != "#0" {
		t.Errorf("%s, %s, %v", vals.Text(kept), vals.Text(e.V), given)
	}
}

// places tells all expressions in a list.
func places(l []api.Expr) []*api.Expr {
	var all []*api.Expr
	for i := range l {
		all = append(all, &l[i])
		all = append(all, places(l[i].L)...)
	}
	return all
}

// What is handed in stays as it was, and may be changed afterwards.
func TestModulesAreNotKept(t *testing.T) {
	for _, text := range append([]string{asking, "fun (if (arg) (let (num 5) (pair (var 0) (arg))) (bin mul (num 2) (num 3)))"}, remembering...) {
		m := module(t, text)
		own := code.Own(m)
		h, twin := New(), houseOf(t, text)
		prepare(t, h, load(0, m))
		if !code.Same(m, own) {
			t.Fatalf("%s: the module was changed", text)
		}
		for _, e := range places(m.Funcs) {
			*e = api.Expr{Op: api.ENum, N: 99}
		}
		for range 3 {
			if e, plain := h.Do(value(0, 0, 5)), twin.Do(value(0, 0, 5)); e.Code != plain.Code || e.Fuel != plain.Fuel || !vals.Same(e.V, plain.V) {
				t.Errorf("%s: %v, want %v", text, e, plain)
			}
			if state(h) != state(twin) {
				t.Fatalf("%s: the house changed with the module: %s, want %s", text, state(h), state(twin))
			}
		}
	}
	// Also a module that is none stays.
	for _, x := range wrong {
		if x.code == api.ErrDeep || x.code == api.ErrMany {
			continue
		}
		m := api.Module{Funcs: []api.Expr{arg, x.f}}
		own := code.Own(m)
		wantRefused(t, New(), load(0, m), x.code)
		if !code.Same(m, own) {
			t.Errorf("%s: the module was changed", x.what)
		}
	}
}

// What lies behind a list's length is no part of it, and stays as it was.
func TestBehindTheLength(t *testing.T) {
	all := func() []api.Expr { return append(args(3), slices.Repeat([]api.Expr{{Op: 99}}, 200)...) }
	l := all()
	h := New()
	want(t, h, load(0, api.Module{Funcs: l[:2]}), "nil", 0)
	want(t, h, value(0, 1, 5), "5", 1)
	wantCode(t, h, value(0, 2, 5), api.ErrNone, 0)
	want(t, h, load(0, api.Module{Funcs: []api.Expr{{Op: api.EPair, L: l[:2]}, {Op: api.EArg, L: l[3:3]}}}), "nil", 0)
	want(t, h, value(0, 0, 5), "(5 5)", 3)
	want(t, h, value(0, 1, 5), "5", 1)
	wantRefused(t, h, load(0, api.Module{Funcs: l[:0]}), api.ErrMany)
	wantRefused(t, h, load(0, api.Module{Funcs: l[:4]}), api.ErrKind)
	if !reflect.DeepEqual(l, all()) {
		t.Error("what lies behind a list's length was changed")
	}
}

func TestListsThatAreEmpty(t *testing.T) {
	nils, empties := New(), New()
	prepare(t, nils, load(0, api.Module{Funcs: []api.Expr{of(api.EPair, arg, of(api.EKeep, of(api.ENum)))}}))
	none := []api.Expr{}
	prepare(t, empties, load(0, api.Module{Funcs: []api.Expr{of(api.EPair, of(api.EArg, none...), of(api.EKeep, of(api.ENum, make([]api.Expr, 0, 3)...)))}}))
	for _, h := range []*House{nils, empties} {
		want(t, h, value(0, 0, 5), "(5 nil)", 4)
		wantRefused(t, h, load(0, api.Module{Funcs: nil}), api.ErrMany)
		wantRefused(t, h, load(0, api.Module{Funcs: none}), api.ErrMany)
		wantRefused(t, h, load(0, api.Module{Funcs: []api.Expr{{Op: api.EFst, L: nil}}}), api.ErrForm)
		wantRefused(t, h, load(0, api.Module{Funcs: []api.Expr{{Op: api.EFst, L: none}}}), api.ErrForm)
		// In steps that need no module there may be either.
		x := value(0, 0, 6)
		x.M.Funcs = none
		want(t, h, x, "(6 0)", 4)
	}
	if state(nils) != state(empties) {
		t.Errorf("%s, %s", state(nils), state(empties))
	}
}

// What stands in memory once, and in the module more often, is there as often; a function may have those ahead of it in it.
func TestModulesThatShareMemory(t *testing.T) {
	steps := make([]api.Expr, 4)
	steps[0] = arg
	steps[1] = api.Expr{Op: api.ESeal, L: steps[:1]}
	steps[2] = api.Expr{Op: api.EPair, L: steps[:2]}
	steps[3] = api.Expr{Op: api.EIf, L: steps[:3]}
	h := New()
	prepare(t, h, load(1, api.Module{Funcs: steps}), load(2, api.Module{Funcs: []api.Expr{doubledExpr(4, arg), doubledExpr(2, fst(steps[2]))}}))
	want(t, h, value(1, 2, 5), "(5 [1 5])", 4)
	want(t, h, value(1, 3, 5), "[1 5]", 4)
	want(t, h, value(1, 3, 0), "(0 [1 0])", 6)
	want(t, h, value(2, 1, 3), "((3 3) (3 3))", 23)
	if e := h.Do(value(2, 0, 1)); e.Code != 0 || e.Fuel != 31 || shares(e.V) {
		t.Errorf("%v", e)
	}
	// Steps with one and the same module, in several houses.
	m := module(t, "fun (keep (arg))")
	other := New()
	prepare(t, h, load(3, m))
	prepare(t, other, load(3, m), value(3, 0, 7))
	wantKept(t, h, 3, "nil")
	wantKept(t, other, 3, "7")
}

// Two houses in which the same is done answer the same, and know nothing of each other.
func TestHousesByThemselves(t *testing.T) {
	steps := []api.Step{
		load(0, module(t, asking)), load(1, module(t, "fun (let (keep (arg)) (write (arg) (num 5))) fun (wrap (kept))")), newGate(), newGate(),
		grant(0, 6, api.RAll, -1), link(0, 1, 0, api.RAsk, 0), grant(0, 7, api.RRead, 1), call(0, 0, 0), call(0, 1, 1), value(1, 1, 0), call(0, 1, 5), cut(0),
		call(0, 1, 1), {}, load(1, api.Module{}), cut(9), value(0, 3, 0), load(0, module(t, "fun (kept)")), value(0, 0, 0), newGate(),
	}
	a, b, idle := New(), New(), New()
	still := state(idle)
	var told []string
	for _, x := range steps {
		e := a.Do(x)
		told = append(told, fmt.Sprint(e.Code, e.Fuel, vals.Text(e.V), state(a)))
		if state(b) != still || state(idle) != still {
			t.Fatal("one house knows of the other one")
		}
	}
	for i, x := range steps {
		e := b.Do(x)
		if got := fmt.Sprint(e.Code, e.Fuel, vals.Text(e.V), state(b)); got != told[i] {
			t.Errorf("step %d: %s, want %s", i, got, told[i])
		}
	}
}
