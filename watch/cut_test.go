package watch

import (
	"math/rand"
	"slices"
	"testing"

	"letterlock/api"
	"letterlock/vals"
)

// busy wraps, narrows, seals and keeps what it is given, and then does things by that.
const busy = `fun (keep (pair (arg) (pair (narrow 15 (arg)) (pair (seal (arg)) (wrap (arg))))))
	fun (pair (read (fst (kept))) (pair (read (fst (snd (kept)))) (pair (read (open (fst (snd (snd (kept)))))) (read (fst (snd (snd (snd (kept)))))))))
	fun (read (fst (kept))) fun (write (fst (snd (kept))) (arg)) fun (read (open (fst (snd (snd (kept)))))) fun (write (fst (snd (snd (snd (kept))))) (arg))`

// A plugin all of whose capabilities were given through one gate does nothing to cells, once it is cut.
func TestNothingIsDoneBehindTheCut(t *testing.T) {
	w := watchOf(t, busy, "fun (read (arg))")
	prepare(t, w, newGate(), newGate(), grant(0, 3, api.RAll, 0), grant(0, 4, api.RRead, 0), grant(1, 3, api.RAll, 1), call(0, 0, 0))
	want(t, w, value(0, 3, 8), "8", 5)
	want(t, w, value(0, 1, 0), "(8 (8 (8 8)))", 22)
	want(t, w, value(0, 5, 9), "9", 7)
	log := w.World.Log()
	prepare(t, w, cut(0))
	for _, x := range []struct{ f, steps int }{{2, 3}, {3, 5}, {4, 6}, {5, 7}, {1, 4}} {
		wantCode(t, w, value(0, x.f, 7), api.ErrRight, x.steps)
	}
	// What is given through it, or made of it, behind the cut does nothing, either, nor does another module.
	prepare(t, w, grant(0, 3, api.RAll, 0), call(0, 0, 0), call(0, 0, 2))
	wantCode(t, w, value(0, 2, 7), api.ErrRight, 3)
	wantCode(t, w, value(0, 5, 7), api.ErrRight, 7)
	prepare(t, w, load(0, module(t, "fun (read (arg)) fun (write (arg) (num 1)) fun (let (cut (snd (wrap (arg)))) (read (fst (wrap (arg)))))")))
	for thing := range 3 {
		wantCode(t, w, call(0, 0, thing), api.ErrRight, 2)
		wantCode(t, w, call(0, 1, thing), api.ErrRight, 3)
		wantCode(t, w, call(0, 2, thing), api.ErrRight, 9)
	}
	if !slices.Equal(w.World.Log(), log) || w.World.Cells()[3] != 9 {
		t.Errorf("something was done behind the cut: %v", w.World.Log()[len(log):])
	}
	// That it may do it is still so; and what did not go through the gate goes on.
	ask(t, w, question{0, 3, api.RAll, true}, question{0, 4, api.RRead, true})
	want(t, w, call(1, 0, 0), "9", 2)
}

// It asks nobody, either, also not by what it was handed on, or got back, ahead of the cut.
func TestNobodyIsAskedBehindTheCut(t *testing.T) {
	w := watchOf(t,
		"fun (keep (arg)) fun (keep (ask (arg) (nil))) fun (ask (kept) (num 5)) fun (read (kept)) fun (let (wrap (arg)) (ask (fst (var 0)) (num 6))) fun (ask (narrow 8 (arg)) (num 7))",
		"fun (kept) fun (keep (arg)) fun (ask (kept) (nil))", "fun (let (keep (arg)) (seal (arg)))")
	prepare(t, w, newGate(), link(0, 1, 0, api.RAsk, 0), link(1, 2, 0, api.RAll, -1), grant(1, 3, api.RAll, -1), link(0, 2, 0, api.RAll, 0))
	// It gets a function that it may ask, and a cell, from the plugin 1.
	prepare(t, w, call(1, 1, 0), call(0, 1, 0))
	want(t, w, value(0, 2, 0), "[2 5]", 8)
	prepare(t, w, call(1, 1, 1))
	want(t, w, call(0, 4, 1), "[2 6]", 12)
	want(t, w, call(0, 5, 1), "[2 7]", 9)
	prepare(t, w, call(0, 1, 0))
	want(t, w, value(0, 3, 0), "0", 2)
	prepare(t, w, call(1, 1, 0), call(0, 1, 0), cut(0))
	kept, log := vals.Text(w.Kept(2)), w.World.Log()
	for _, x := range []struct {
		step api.Step
		fuel int
	}{
		{value(0, 2, 0), 3}, {value(0, 3, 0), 2}, {call(0, 4, 1), 7}, {call(0, 5, 1), 4}, {call(0, 1, 0), 4}, {call(0, 1, 1), 4},
	} {
		wantCode(t, w, x.step, api.ErrRight, x.fuel)
	}
	if vals.Text(w.Kept(2)) != kept || kept != "7" || !slices.Equal(w.World.Log(), log) {
		t.Errorf("it keeps %s, before %s: somebody was asked", vals.Text(w.Kept(2)), kept)
	}
	// The others go on.
	want(t, w, value(1, 2, 0), "[2 nil]", 8)
}

// A plugin that nobody cut off goes on, though another gate is cut.
func TestOtherGates(t *testing.T) {
	w := watchOf(t, "fun (read (arg))", "fun (read (arg))")
	prepare(t, w, newGate(), newGate(), grant(0, 3, 1, 0), grant(0, 4, 1, 1), grant(0, 5, 1, -1), grant(1, 3, 1, 1), cut(0))
	wantCode(t, w, call(0, 0, 0), api.ErrRight, 2)
	want(t, w, call(0, 0, 1), "0", 2)
	want(t, w, call(0, 0, 2), "0", 2)
	want(t, w, call(1, 0, 0), "0", 2)
}

// others tells all that plugins other than p can show, and what was done to cells.
func others(w *Watch, p int) string {
	text := ""
	for q := range api.MaxPlugins {
		if q != p {
			text += vals.Text(w.Kept(q)) + " "
		}
	}
	for _, n := range w.World.Cells() {
		text += vals.Text(number(n)) + " "
	}
	return text
}

// entriesOf tells how many entries of the log are of a plugin.
func entriesOf(w *Watch, p int) int {
	n := 0
	for _, e := range w.World.Log() {
		if e.Plugin == p {
			n++
		}
	}
	return n
}

// Random scripts in which one plugin was given all through the gate 0, and is asked by nobody else: behind the cut
// none of its entries comes any more, and none of its calls does anything to what others keep.
func TestManyCuts(t *testing.T) {
	r := rand.New(rand.NewSource(4))
	ahead, asked, calls, goOn := 0, 0, 0, 0
	for round := range 400 {
		p := round % api.MaxPlugins
		s, w := newScript(t, r), New()
		s.only = p
		for _, x := range s.steps(30 + r.Intn(90)) {
			before := others(w, p)
			do(t, w, x)
			if x.Kind == api.SCall && x.P == p && others(w, p) != before {
				asked++
			}
		}
		prepare(t, w, cut(0))
		s.h.Cut(0)
		entries := entriesOf(w, p)
		ahead += entries
		all := len(w.World.Log())
		for range 60 {
			x := s.step()
			s.h.Do(x)
			before := others(w, p)
			do(t, w, x)
			if x.Kind == api.SCall && x.P == p {
				calls++
				if others(w, p) != before {
					t.Fatalf("%s: it asked somebody behind the cut", describe(x))
				}
			}
		}
		if entriesOf(w, p) != entries {
			t.Fatalf("%d did something behind the cut: %v", p, w.World.Log())
		}
		goOn += len(w.World.Log()) - all
	}
	if ahead < 500 || asked < 100 || calls < 3000 || goOn < 500 {
		t.Errorf("%d entries and %d asks ahead of the cut, %d calls behind it, and %d entries of others", ahead, asked, calls, goOn)
	}
}

// Behind the cut its calls come to the same, whatever the others are: so it asks none of them.
func TestWhateverTheOthersAre(t *testing.T) {
	r := rand.New(rand.NewSource(5))
	right := 0
	for round := range 300 {
		p := round % api.MaxPlugins
		s, w, twin := newScript(t, r), New(), New()
		s.only = p
		for _, x := range append(s.steps(30+r.Intn(60)), cut(0)) {
			do(t, w, x)
			do(t, twin, x)
		}
		s.h.Cut(0)
		for q := range api.MaxPlugins {
			if q != p {
				do(t, twin, load(q, module(t, "fun (num 77) fun (num 78) fun (num 79) fun (num 80) fun (num 81) fun (num 82)")))
			}
		}
		for range 60 {
			x := s.step()
			if x.P != p || x.Kind != api.SCall {
				continue
			}
			e, other := do(t, w, x), do(t, twin, x)
			if !sameEvent(e, other) || !vals.Same(w.Kept(p), twin.Kept(p)) {
				t.Fatalf("%s: %v, where the others are others %v", describe(x), e, other)
			}
			if e.Code == api.ErrRight {
				right++
			}
		}
	}
	if right < 300 {
		t.Errorf("only %d calls came to a right that is not there", right)
	}
}
