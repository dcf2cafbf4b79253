package watch

import (
	"reflect"
	"testing"

	"letterlock/api"
	"letterlock/house"
)

// No step lets a plugin have a capability that nobody gave: so it is laid into what the plugin keeps, past all steps.
func forge(w *Watch, p, node int) { w.Plugins[p].Kept = ability(node) }

// keeper does things by what it keeps, or by what it is called with.
const keeper = "fun (read (kept)) fun (write (kept) (arg)) fun (read (arg)) fun (pair (read (arg)) (pair (read (kept)) (read (arg)))) fun (kept) fun (keep (arg))"

// wantTold asks for a fault beside which nothing is told.
func wantTold(t *testing.T, w *Watch, x api.Step, at int) {
	t.Helper()
	e, f := w.Do(x)
	if f != (api.Fault{Code: api.ErrOther, At: at}) || !reflect.DeepEqual(e, api.Event{}) {
		t.Errorf("%s: %v, %v, want %d at %d", describe(x), e, f, api.ErrOther, at)
	}
}

func TestWhatMayNotBeIsTold(t *testing.T) {
	for _, x := range []struct {
		given api.Step // to the plugin 1, by which it does it
		ahead []api.Step
		does  api.Step // by the plugin 0
		told  bool
	}{
		{grant(1, 3, 15, -1), nil, value(0, 0, 0), true},
		{grant(1, 3, 15, -1), nil, value(0, 1, 0), true},
		// another cell, another right, a grant without it, a plugin that is linked with itself or with others
		{grant(1, 3, 15, -1), []api.Step{grant(0, 4, 15, -1)}, value(0, 0, 0), true},
		{grant(1, 3, 15, -1), []api.Step{grant(0, 3, 13, -1)}, value(0, 1, 0), true},
		{grant(1, 3, 15, -1), []api.Step{grant(0, 3, 14, -1)}, value(0, 0, 0), true},
		{grant(1, 3, 15, -1), []api.Step{grant(0, 3, 0, -1), grant(0, 3, 99, -1)}, value(0, 0, 0), true},
		{grant(1, 3, 15, -1), []api.Step{link(0, 0, 0, 15, -1), link(0, 2, 0, 15, -1), link(1, 3, 0, 15, -1)}, value(0, 0, 0), true},
		{grant(1, 3, 15, -1), []api.Step{link(0, 1, 6, 15, -1), link(1, 0, 0, 16, -1), link(0, 1, 0, 8, 9)}, value(0, 0, 0), true},
		// its own grant of that, one of a plugin with which it is linked, and nothing that is done
		{grant(1, 3, 15, -1), []api.Step{grant(0, 3, 1, -1)}, value(0, 0, 0), false},
		{grant(1, 3, 15, -1), []api.Step{grant(0, 3, 2, -1)}, value(0, 1, 0), false},
		{grant(1, 3, 15, -1), []api.Step{link(0, 1, 0, 0, -1)}, value(0, 0, 0), false},
		{grant(1, 3, 15, -1), []api.Step{link(1, 0, 0, 0, -1)}, value(0, 1, 0), false},
		{grant(1, 3, 15, -1), []api.Step{link(1, 2, 0, 0, -1), link(0, 2, 5, 0, -1)}, value(0, 0, 0), false},
		{grant(1, 3, 15, -1), nil, value(0, 4, 0), false},
		{grant(1, 3, 14, -1), nil, value(0, 0, 0), false},
		{grant(1, 3, 15, -1), nil, newGate(), false},
		{grant(1, 3, 15, -1), nil, call(1, 2, 0), false},
	} {
		w := watchOf(t, keeper, keeper)
		prepare(t, w, x.given)
		for _, x := range x.ahead {
			do(t, w, x)
		}
		forge(w, 0, 0)
		entries := len(w.World.Log())
		if x.told {
			wantTold(t, w, x.does, 3+len(x.ahead))
			wantTold(t, w, newGate(), 3+len(x.ahead))
			if len(w.World.Log()) != entries+1 {
				t.Errorf("%s: the log is %v", describe(x.does), w.World.Log())
			}
		} else {
			do(t, w, x.does)
			do(t, w, newGate())
		}
	}
}

// Whether it is the first of several things that were done by the step, or another one.
func TestOneOfSeveralThingsIsTold(t *testing.T) {
	for _, texts := range []string{
		"fun (pair (read (kept)) (pair (read (arg)) (read (arg))))", "fun (pair (read (arg)) (pair (read (kept)) (read (arg))))",
		"fun (pair (read (arg)) (pair (read (arg)) (read (kept))))", "fun (let (read (arg)) (let (read (kept)) (fst (nil))))",
	} {
		w := watchOf(t, texts)
		prepare(t, w, grant(0, 2, 15, -1), grant(1, 3, 15, -1))
		forge(w, 0, 1)
		wantTold(t, w, call(0, 0, 0), 3)
	}
}

// It is told again from then on, with every step, also when the plugin may do it by then; and the steps are done.
func TestWhatWasToldIsToldAgain(t *testing.T) {
	w, h := watchOf(t, keeper, keeper), house.New()
	m := module(t, keeper)
	for _, x := range []api.Step{load(0, m), load(1, m), grant(1, 3, 15, -1)} {
		h.Do(x)
	}
	prepare(t, w, grant(1, 3, 15, -1))
	forge(w, 0, 0)
	h.Plugins[0].Kept = ability(0)
	for _, x := range []api.Step{
		value(0, 0, 0), value(0, 0, 0), value(0, 1, 8), newGate(), grant(0, 3, 15, 0), link(0, 1, 0, 15, 0), call(0, 2, 0), load(2, m), cut(0), {}, load(9, m), call(0, 2, 0), value(1, 5, 9),
	} {
		wantTold(t, w, x, 3)
		h.Do(x)
		if got, want := state(w.House), state(h); got != want {
			t.Errorf("%s: %s, want %s", describe(x), got, want)
		}
	}
	if !w.May(0, 3, api.RAll) || !w.May(1, 3, 1) || w.May(2, 3, 1) {
		t.Error("May tells no longer what may be done")
	}
	// Another watch knows nothing of it.
	prepare(t, New(), newGate(), grant(0, 1, 1, -1))
}

// Each step of the watch counts, whatever it came to, and nothing else does.
func TestTheNumberOfAStep(t *testing.T) {
	for many := range 30 {
		w := watchOf(t, keeper)
		prepare(t, w, grant(1, 3, 15, -1))
		for i := range many {
			do(t, w, []api.Step{newGate(), {}, load(5, api.Module{}), value(0, 4, 0), value(0, 2, 1), grant(2, 99, 1, -1), cut(0)}[i%7])
			w.House.Do(cut(0))
			w.May(0, 3, 1)
		}
		forge(w, 0, 0)
		wantTold(t, w, value(0, 0, 0), 2+many)
		wantTold(t, w, value(0, 0, 0), 2+many)
	}
}

// The very first step has the number 0.
func TestTheFirstStep(t *testing.T) {
	w := New()
	w.House.Do(load(0, module(t, keeper)))
	w.House.Do(grant(1, 3, 15, -1))
	forge(w, 0, 0)
	wantTold(t, w, value(0, 1, 4), 0)
	wantTold(t, w, api.Step{}, 0)
}

// What came into the log by other ways than by a step is not told of a step.
func TestWhatDidNotComeByAStep(t *testing.T) {
	w := watchOf(t, keeper)
	prepare(t, w, grant(1, 3, 15, -1))
	w.World.Write(0, 3, 0, 5)
	w.World.Read(77, 3, -4)
	if v, _, code := w.Run(0, 2, ability(0), 9); v.N != 5 || code != 0 {
		t.Errorf("%v, %d", v, code)
	}
	prepare(t, w, newGate(), grant(0, 2, 1, -1), call(0, 2, 0), cut(0))
	want(t, w, value(0, 4, 0), "nil", 1)
	forge(w, 0, 0)
	w.House.Do(value(0, 0, 0))
	prepare(t, w, newGate())
	wantTold(t, w, value(0, 0, 0), 8)
}
