package watch

import (
	"math"
	"math/rand"
	"reflect"
	"slices"
	"testing"

	"letterlock/api"
	"letterlock/vals"
)

// events tells what the steps of a script come to, which must come to no fault.
func events(t *testing.T, l []api.Step) []api.Event {
	t.Helper()
	all, f := Run(l)
	if f != (api.Fault{}) || len(all) != len(l) {
		t.Fatalf("%d steps: %d events, the fault %v", len(l), len(all), f)
	}
	return all
}

func sameEvents(a, b []api.Event) bool { return slices.EqualFunc(a, b, sameEvent) }

// byDo tells what the steps come to one by one.
func byDo(t *testing.T, l []api.Step) []api.Event {
	t.Helper()
	w := New()
	var all []api.Event
	for _, x := range l {
		all = append(all, do(t, w, x))
	}
	return all
}

func TestRun(t *testing.T) {
	m := module(t, "fun (read (arg)) fun (keep (arg)) fun (write (kept) (arg))")
	all := events(t, []api.Step{
		load(2, m), newGate(), grant(2, 5, 3, 0), call(2, 1, 0), value(2, 2, 9), call(2, 0, 0), link(2, 3, 1, 15, -1), {Kind: 7}, cut(0), call(2, 0, 0), call(2, 0, 4), value(2, 1, 6), grant(2, 5, 3, 1),
	})
	want := []struct {
		code, fuel int
		text       string
	}{
		{0, 0, "nil"}, {0, 0, "0"}, {0, 0, "#0"}, {0, 2, "nil"}, {0, 3, "9"}, {0, 2, "9"}, {0, 0, "#1"}, {api.ErrKind, 0, "nil"}, {0, 0, "nil"}, {api.ErrRight, 2, "nil"}, {api.ErrNone, 0, "nil"}, {0, 2, "#0"}, {api.ErrNone, 0, "nil"},
	}
	for i, e := range all {
		if e.Code != want[i].code || e.Fuel != want[i].fuel || vals.Text(e.V) != want[i].text {
			t.Errorf("step %d: %v, want %v", i, e, want[i])
		}
	}
}

func TestRunOfNoSteps(t *testing.T) {
	for _, l := range [][]api.Step{nil, {}, make([]api.Step, 0, 300), make([]api.Step, 300)[:0]} {
		if all, f := Run(l); len(all) != 0 || f != (api.Fault{}) {
			t.Errorf("%v, %v", all, f)
		}
	}
}

func TestRunOfOneStep(t *testing.T) {
	for _, x := range []struct {
		step api.Step
		want api.Event
	}{
		{newGate(), api.Event{V: number(0)}}, {cut(0), api.Event{Code: api.ErrNone}}, {api.Step{}, api.Event{Code: api.ErrKind}}, {load(3, module(t, "fun (nil)")), api.Event{}},
		{load(4, module(t, "fun (nil)")), api.Event{Code: api.ErrRange}}, {grant(3, 11, 15, -1), api.Event{V: ability(0)}}, {grant(3, 11, 15, 0), api.Event{Code: api.ErrNone}},
		{link(3, 3, 5, 0, -1), api.Event{V: ability(0)}}, {link(3, 4, 5, 0, -1), api.Event{Code: api.ErrRange}}, {call(0, 0, 0), api.Event{Code: api.ErrNone}}, {value(4, 0, 0), api.Event{Code: api.ErrRange}},
	} {
		if all := events(t, []api.Step{x.step}); !reflect.DeepEqual(all, []api.Event{x.want}) {
			t.Errorf("%s: %v, want %v", describe(x.step), all, x.want)
		}
	}
}

// counting tells a script that counts its steps.
func counting(t *testing.T, n int) []api.Step {
	l := slices.Repeat([]api.Step{value(0, 0, 1)}, max(n, 2))
	l[0], l[1] = load(0, module(t, "fun (let (keep (bin add (kept) (arg))) (kept)) fun (keep (arg))")), value(0, 1, 2)
	return l[:n]
}

func TestRunOfAsManyStepsAsMayBe(t *testing.T) {
	for _, n := range []int{2, 3, api.MaxSteps - 1, api.MaxSteps} {
		all := events(t, counting(t, n))
		for i := 2; i < n; i++ {
			if e := all[i]; !reflect.DeepEqual(e, api.Event{Fuel: 6, V: number(int64(i + 1))}) {
				t.Fatalf("step %d of %d: %v", i, n, e)
			}
		}
	}
	for _, e := range events(t, make([]api.Step, api.MaxSteps)) {
		if !reflect.DeepEqual(e, api.Event{Code: api.ErrKind}) {
			t.Errorf("%v", e)
		}
	}
}

func TestRunOfTooManySteps(t *testing.T) {
	self := make([]api.Expr, 1)
	self[0] = api.Expr{Op: api.EFst, L: self}
	for _, n := range []int{1, 2, 56, 57, 300, 100000} {
		for _, l := range [][]api.Step{
			make([]api.Step, api.MaxSteps+n), slices.Repeat([]api.Step{newGate()}, api.MaxSteps+n), counting(t, api.MaxSteps+n),
			slices.Repeat([]api.Step{load(0, api.Module{Funcs: self})}, api.MaxSteps+n), slices.Repeat([]api.Step{{Kind: math.MinInt, P: math.MaxInt}}, api.MaxSteps+n),
		} {
			if all, f := Run(l); len(all) != 0 || f != (api.Fault{Code: api.ErrMany, At: -1}) {
				t.Errorf("%d steps: %d events, %v", len(l), len(all), f)
			}
		}
	}
	// Do has no such bound.
	w := New()
	for i, x := range counting(t, 3*api.MaxSteps) {
		if e := do(t, w, x); i > 1 && e.V.N != int64(i+1) {
			t.Fatalf("step %d: %v", i, e)
		}
	}
}

// A script begins anew, whatever was run ahead of it.
func TestRunBeginsAnew(t *testing.T) {
	l := []api.Step{newGate(), grant(0, 1, 15, 0), load(0, module(t, "fun (write (arg) (bin add (num 1) (read (arg))))")), call(0, 0, 0), cut(0)}
	first := events(t, l)
	if first[3].V.N != 1 {
		t.Errorf("%v", first)
	}
	for range 3 {
		if !sameEvents(events(t, l), first) {
			t.Error("it comes to something else than ahead")
		}
	}
	if all := events(t, []api.Step{call(0, 0, 0), newGate()}); !sameEvents(all, []api.Event{{Code: api.ErrNone}, {V: number(0)}}) {
		t.Errorf("%v", all)
	}
}

// Run comes to what Do comes to, step by step, and the beginning of a script to the beginning of what it comes to.
func TestRunsAndTheirBeginnings(t *testing.T) {
	r := rand.New(rand.NewSource(13))
	for range 60 {
		l := newScript(t, r).steps(r.Intn(api.MaxSteps + 1))
		all := events(t, l)
		if !sameEvents(all, byDo(t, l)) {
			t.Fatal("Run comes to something else than Do")
		}
		for range 5 {
			n := r.Intn(len(l) + 1)
			if !sameEvents(events(t, l[:n]), all[:n]) {
				t.Fatalf("the first %d of %d steps come to something else", n, len(l))
			}
		}
	}
}
