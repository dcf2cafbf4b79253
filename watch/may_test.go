package watch

import (
	"fmt"
	"math"
	"slices"
	"testing"

	"letterlock/api"
)

// ledger is a second reckoning of what may be done: from the steps themselves, and what they came to.
type ledger struct {
	cells []api.Step // those that gave a capability of a cell
	links []api.Step // those that gave one of a function
}

func (l *ledger) note(x api.Step, e api.Event) {
	switch {
	case e.Code == 0 && x.Kind == api.SGrant:
		l.cells = append(l.cells, x)
	case e.Code == 0 && x.Kind == api.SLink:
		l.links = append(l.links, x)
	}
}

// groups tells of each plugin a number that is the same of those that are linked: the least one of them.
func (l ledger) groups() [4]int {
	group := [4]int{0, 1, 2, 3}
	for range group {
		for _, x := range l.links {
			least := min(group[x.P], group[x.Q])
			group[x.P], group[x.Q] = least, least
		}
	}
	return group
}

func (l ledger) may(p, cell, right int) bool {
	group := l.groups()
	for _, x := range l.cells {
		if p >= 0 && p <= 3 && group[p] == group[x.P] && x.K == cell && x.R|right == x.R {
			return true
		}
	}
	return false
}

// table tells of all plugins, cells and rights whether that may be done.
func table(may func(p, cell, right int) bool) string {
	var text []byte
	for p := range api.MaxPlugins {
		for cell := range api.MaxCells {
			for right := range api.RAll + 1 {
				if may(p, cell, right) {
					text = fmt.Append(text, p, cell, right, ";")
				}
			}
		}
	}
	return string(text)
}

func mays(w *Watch) string { return table(w.May) }

func (l ledger) mays() string { return table(l.may) }

// wantMay asks for all that may be done, and that nothing else may be, whatever is asked for.
func wantMay(t *testing.T, w *Watch, l ledger) {
	t.Helper()
	if got, want := mays(w), l.mays(); got != want {
		t.Fatalf("May tells %q, want %q", got, want)
	}
	for _, right := range append([]int{0, 1, 2, 3, 15}, noRights...) {
		for cell := range api.MaxCells {
			for _, p := range noPlugins {
				wantNot(t, w, p, cell, right)
			}
		}
		for p := range api.MaxPlugins {
			for _, cell := range noCells {
				wantNot(t, w, p, cell, right)
			}
		}
	}
	for _, right := range noRights {
		for p := range api.MaxPlugins {
			for cell := range api.MaxCells {
				wantNot(t, w, p, cell, right)
			}
		}
	}
}

func wantNot(t *testing.T, w *Watch, p, cell, right int) {
	t.Helper()
	if w.May(p, cell, right) {
		t.Errorf("%d may do %d to the cell %d", p, right, cell)
	}
}

// after does steps in a new watch, and asks behind each of them for all that may be done.
func after(t *testing.T, steps ...api.Step) *Watch {
	t.Helper()
	w, l := New(), ledger{}
	for _, x := range steps {
		l.note(x, do(t, w, x))
		if got, want := mays(w), l.mays(); got != want {
			t.Fatalf("%s: May tells %q, want %q", describe(x), got, want)
		}
	}
	return w
}

// question is something that May is asked, and what it is to tell.
type question struct {
	p, cell, right int
	want           bool
}

func ask(t *testing.T, w *Watch, all ...question) {
	t.Helper()
	for _, q := range all {
		if got := w.May(q.p, q.cell, q.right); got != q.want {
			t.Errorf("may %d do %d to the cell %d: %v", q.p, q.right, q.cell, got)
		}
	}
}

// Plugins, cells and rights that there are not: ahead of every step, and where all is given to all.
func TestMayOfWhatIsNot(t *testing.T) {
	w, l := New(), ledger{}
	wantMay(t, w, l)
	for p := range api.MaxPlugins {
		for cell := range api.MaxCells {
			x := grant(p, cell, api.RAll, -1)
			l.note(x, do(t, w, x))
		}
	}
	wantMay(t, w, l)
	for p := range api.MaxPlugins {
		x := link(p, (p+1)%api.MaxPlugins, p, api.RAll, -1)
		l.note(x, do(t, w, x))
	}
	wantMay(t, w, l)
}

func TestMayBehindAGrant(t *testing.T) {
	w := New()
	prepare(t, w, grant(1, 3, api.RRead|api.RPass, -1))
	ask(t, w,
		question{1, 3, api.RRead, true}, question{1, 3, api.RPass, true}, question{1, 3, api.RRead | api.RPass, true}, question{1, 3, 0, true},
		// another right, more than the right, another cell, another plugin
		question{1, 3, api.RWrite, false}, question{1, 3, api.RAsk, false}, question{1, 3, api.RRead | api.RWrite, false}, question{1, 3, api.RAll, false},
		question{1, 4, api.RRead, false}, question{1, 2, 0, false}, question{1, 0, api.RRead, false}, question{0, 3, api.RRead, false}, question{2, 3, 0, false}, question{3, 3, 5, false},
	)
}

// Each right of each sum, of each plugin and each cell.
func TestMayBehindEachGrant(t *testing.T) {
	for r := range api.RAll + 1 {
		for p := range api.MaxPlugins {
			after(t, grant(p, (r+5*p)%api.MaxCells, r, -1))
		}
	}
	for cell := range api.MaxCells {
		for p := range api.MaxPlugins {
			after(t, grant(p, cell, api.RRead, -1))
		}
	}
}

// A right in two halves is no right: one capability must have all of it.
func TestMayInHalves(t *testing.T) {
	w := after(t, grant(0, 3, api.RRead, -1), grant(0, 3, api.RWrite, -1))
	ask(t, w, question{0, 3, 1, true}, question{0, 3, 2, true}, question{0, 3, 3, false})
	w = after(t, grant(0, 3, 7, -1), grant(0, 3, 8, -1), grant(0, 3, 11, -1), grant(0, 3, 13, -1), grant(0, 3, 14, -1))
	ask(t, w, question{0, 3, api.RAll, false}, question{0, 3, 14, true})
	prepare(t, w, grant(0, 3, api.RAll, -1))
	ask(t, w, question{0, 3, api.RAll, true})
	// Also by two that are linked.
	w = after(t, grant(0, 3, 1, -1), link(0, 1, 0, 0, -1), grant(1, 3, 2, -1))
	ask(t, w, question{0, 3, 3, false}, question{1, 3, 3, false}, question{0, 3, 2, true}, question{1, 3, 1, true})
	after(t, grant(0, 3, 0, -1), grant(0, 3, 0, -1), grant(0, 4, 1, -1), grant(0, 5, 2, -1))
}

// No right at all may be done where any capability of the cell was given, also one without rights.
func TestMayWithoutARight(t *testing.T) {
	w := after(t, grant(2, 7, 0, -1))
	ask(t, w, question{2, 7, 0, true}, question{2, 7, 1, false}, question{2, 6, 0, false}, question{1, 7, 0, false}, question{2, 0, 0, false})
	// A capability of a function is none of a cell.
	w = after(t, link(2, 1, 0, api.RAll, -1), link(2, 0, 3, api.RAll, -1), link(2, 2, 5, api.RAll, -1))
	for cell := range api.MaxCells {
		ask(t, w, question{2, cell, 0, false}, question{1, cell, 1, false}, question{0, cell, 0, false})
	}
}

func TestMayThroughALink(t *testing.T) {
	for p := range api.MaxPlugins {
		for q := range api.MaxPlugins {
			for f := range api.MaxFuncs {
				// The giver may ask, or may be asked; and the link is there first, or the grant.
				after(t, grant(p, 3, 5, -1), link(p, q, f, api.RAll, -1))
				after(t, grant(p, 3, 5, -1), link(q, p, f, api.RAll, -1))
				after(t, link(p, q, f, api.RAll, -1), grant(p, 3, 5, -1))
				after(t, link(q, p, f, api.RAll, -1), grant(p, 3, 5, -1))
			}
		}
	}
	w := New()
	prepare(t, w, grant(1, 3, 3, -1), link(0, 1, 0, 8, -1), link(2, 1, 0, 8, -1))
	ask(t, w, question{0, 3, 2, true}, question{1, 3, 2, true}, question{2, 3, 3, true}, question{3, 3, 1, false}, question{0, 3, 4, false}, question{0, 4, 1, false})
}

// A link of a plugin with itself links it with nobody else.
func TestMayThroughALinkWithItself(t *testing.T) {
	for p := range api.MaxPlugins {
		for other := range api.MaxPlugins {
			w := after(t, link(p, p, 0, api.RAll, -1), grant(other, 3, 3, -1))
			ask(t, w, question{p, 3, 3, p == other}, question{other, 3, 3, true}, question{(other + 1) % 4, 3, 3, false})
		}
	}
}

// The rights of a link are of no account: that it was given counts.
func TestMayThroughLinksWithEachRight(t *testing.T) {
	for r := range api.RAll + 1 {
		w := after(t, grant(3, 3, 3, -1), link(0, 3, 5, r, -1))
		ask(t, w, question{0, 3, 3, true}, question{0, 3, r | 3, r|3 == 3}, question{1, 3, 3, false})
		after(t, grant(0, 3, 3, -1), link(0, 3, 5, r, -1))
	}
}

func TestMayThroughTwoLinks(t *testing.T) {
	for _, l := range [][]api.Step{
		{link(0, 1, 0, 8, -1), link(1, 2, 0, 8, -1)}, {link(0, 1, 0, 8, -1), link(2, 1, 0, 8, -1)},
		{link(1, 0, 0, 8, -1), link(1, 2, 0, 8, -1)}, {link(1, 0, 0, 8, -1), link(2, 1, 0, 8, -1)},
	} {
		w := after(t, append([]api.Step{grant(0, 3, 3, -1), grant(2, 4, 1, -1), grant(3, 5, 1, -1)}, l...)...)
		ask(t, w, question{2, 3, 3, true}, question{1, 3, 3, true}, question{0, 4, 1, true}, question{3, 3, 1, false}, question{0, 5, 1, false})
		slices.Reverse(l)
		after(t, append(l, grant(0, 3, 3, -1), grant(2, 4, 1, -1), grant(3, 5, 1, -1))...)
	}
	// Two that are linked, and two others: nothing goes from these to those.
	w := after(t, link(0, 1, 0, 15, -1), link(2, 3, 0, 15, -1), grant(1, 3, 3, -1), grant(2, 4, 3, -1))
	ask(t, w, question{0, 3, 1, true}, question{3, 4, 1, true}, question{2, 3, 1, false}, question{3, 3, 1, false}, question{0, 4, 1, false}, question{1, 4, 1, false})
	prepare(t, w, link(3, 0, 2, 0, -1))
	ask(t, w, question{2, 3, 1, true}, question{3, 3, 1, true}, question{0, 4, 1, true}, question{1, 4, 1, true})
}

// orders tells all orders of so many things.
func orders(n int) [][]int {
	if n == 0 {
		return [][]int{nil}
	}
	var all [][]int
	for _, l := range orders(n - 1) {
		for at := range n {
			all = append(all, slices.Insert(slices.Clone(l), at, n-1))
		}
	}
	return all
}

// A chain of all plugins, with its links in either direction, and the steps by which it comes to be in every order.
func TestMayThroughAChain(t *testing.T) {
	for _, chain := range orders(4) {
		for turned := range 8 {
			steps := []api.Step{grant(chain[0], 3, api.RRead, -1)}
			for i := range 3 {
				a, b := chain[i], chain[i+1]
				if turned>>i&1 == 1 {
					a, b = b, a
				}
				steps = append(steps, link(a, b, i, api.RAsk, -1))
			}
			for _, order := range orders(4) {
				w, l := New(), ledger{}
				for _, i := range order {
					l.note(steps[i], do(t, w, steps[i]))
					for p := range api.MaxPlugins {
						if got := w.May(p, 3, api.RRead); got != l.may(p, 3, api.RRead) {
							t.Fatalf("chain %v, turned %d, order %v: may %d: %v", chain, turned, order, p, got)
						}
					}
				}
				for p := range api.MaxPlugins {
					ask(t, w, question{p, 3, api.RRead, true}, question{p, 3, api.RWrite, false}, question{p, 4, api.RRead, false})
				}
			}
		}
	}
}

// A ring, and links that are given again and again, link no more than a chain.
func TestMayThroughARing(t *testing.T) {
	after(t, grant(0, 3, 1, -1), link(0, 1, 0, 8, -1), link(1, 2, 0, 8, -1), link(2, 0, 0, 8, -1), link(2, 0, 0, 8, -1), link(0, 0, 0, 8, -1), grant(3, 4, 1, -1))
	after(t, grant(0, 3, 1, -1), link(0, 1, 0, 8, -1), link(1, 2, 0, 8, -1), link(2, 3, 0, 8, -1), link(3, 0, 0, 8, -1), grant(3, 4, 1, -1))
}

// Links and grants count also where no plugin is loaded, and whatever functions it has.
func TestMayOfWhatIsNotLoaded(t *testing.T) {
	w := New()
	prepare(t, w, grant(0, 3, 1, -1), link(1, 0, 5, 15, -1))
	ask(t, w, question{0, 3, 1, true}, question{1, 3, 1, true})
	m := module(t, "fun (arg)")
	prepare(t, w, load(2, m), load(3, m), link(2, 3, 4, 8, -1), link(3, 0, 1, 8, -1))
	ask(t, w, question{2, 3, 1, true}, question{3, 3, 1, true})
}

// That plugins may ask each other links them; that they did ask, or what they made, adds nothing.
func TestMayBehindCalls(t *testing.T) {
	w := watchOf(t, "fun (ask (arg) (kept)) fun (keep (arg)) fun (keep (narrow 7 (fst (wrap (arg)))))", "fun (let (write (arg) (num 4)) (keep (narrow 5 (arg)))) fun (read (kept))")
	prepare(t, w, grant(0, 3, 7, -1), link(0, 1, 0, 8, -1))
	may := mays(w)
	prepare(t, w, call(0, 1, 0), call(0, 0, 1), value(1, 1, 0), call(0, 2, 0), call(0, 0, 1))
	if len(w.Nodes()) < 4 || len(w.World.Log()) != 3 || mays(w) != may {
		t.Errorf("%s", state(w.House))
	}
	ask(t, w, question{1, 3, 7, true}, question{2, 3, 0, false}, question{1, 3, 15, false})
}

// refused are steps that give nothing, each with its code, where there is one gate, and (full) no room in the graph.
var refused = []struct {
	x    api.Step
	code int
	full bool
}{
	{grant(-1, 3, 3, -1), api.ErrRange, false}, {grant(4, 3, 3, -1), api.ErrRange, false},
	{grant(0, -1, 3, -1), api.ErrRange, false}, {grant(0, 12, 3, -1), api.ErrRange, false},
	{grant(0, 3, -1, -1), api.ErrRange, false}, {grant(0, 3, 16, -1), api.ErrRange, false}, {grant(0, 3, 19, -1), api.ErrRange, false},
	{grant(0, 3, 3, 1), api.ErrNone, false}, {grant(0, 3, 3, -2), api.ErrNone, false},
	{grant(0, 3, 3, -1), api.ErrFull, true}, {grant(0, 3, 3, 0), api.ErrFull, true}, {grant(0, 3, 3, 1), api.ErrNone, true},
	{link(-1, 2, 0, 8, -1), api.ErrRange, false}, {link(4, 2, 0, 8, -1), api.ErrRange, false},
	{link(0, -1, 0, 8, -1), api.ErrRange, false}, {link(0, 4, 0, 8, -1), api.ErrRange, false},
	{link(0, 2, -1, 8, -1), api.ErrRange, false}, {link(0, 2, 6, 8, -1), api.ErrRange, false},
	{link(0, 2, 0, -1, -1), api.ErrRange, false}, {link(0, 2, 0, 16, -1), api.ErrRange, false},
	{link(0, 2, 0, 8, 1), api.ErrNone, false}, {link(2, 0, 0, 8, -2), api.ErrNone, false},
	{link(0, 2, 0, 8, -1), api.ErrFull, true}, {link(2, 0, 0, 8, 0), api.ErrFull, true}, {link(0, 2, 0, 8, 1), api.ErrNone, true},
}

func TestMayBehindWhatWasRefused(t *testing.T) {
	for _, r := range refused {
		w := New()
		prepare(t, w, newGate(), grant(2, 7, 3, -1), link(3, 1, 0, 8, 0))
		for r.full && len(w.Nodes()) < api.MaxNodes {
			prepare(t, w, grant(3, 11, 0, -1))
		}
		wantRefused(t, w, r.x, r.code)
		ask(t, w, question{0, 3, 0, false}, question{0, 7, 0, false}, question{0, 3, 3, false}, question{2, 7, 3, true}, question{2, 3, 0, false}, question{-1, 3, 3, false}, question{4, 3, 3, false})
	}
	for _, p := range noPlugins {
		w := New()
		wantRefused(t, w, grant(p, 3, 3, -1), api.ErrRange)
		prepare(t, w, grant(0, 3, 3, -1))
		wantRefused(t, w, link(p, 0, 3, 3, -1), api.ErrRange)
		wantRefused(t, w, link(0, p, 3, 3, -1), api.ErrRange)
		wantMay(t, w, ledger{cells: []api.Step{grant(0, 3, 3, -1)}})
	}
}

// Where all there is was given, it is known to the last one.
func TestMayOfAFullGraph(t *testing.T) {
	var l []api.Step
	for n := range api.MaxNodes {
		x := grant(n%api.MaxPlugins, n*5%api.MaxCells, n*7%16, -1)
		if n > api.MaxNodes-4 {
			x = link(n%2, 2+n%2, n%api.MaxFuncs, 0, -1)
		}
		l = append(l, x)
	}
	w := after(t, append(l, grant(0, 0, 15, -1), link(0, 1, 0, 15, -1))...)
	if len(w.Nodes()) != api.MaxNodes {
		t.Errorf("there are %d capabilities", len(w.Nodes()))
	}
}

// What was given through a gate was given, also behind its cut, and ahead of it.
func TestMayThroughGates(t *testing.T) {
	steps := []api.Step{newGate(), newGate(), grant(0, 3, 3, 0), link(1, 0, 0, 8, 0), cut(0), grant(0, 4, 1, 0), link(2, 0, 0, 8, 0), grant(3, 5, 2, 1), link(3, 2, 0, 8, 1), cut(1), cut(0)}
	w := after(t, steps...)
	ask(t, w, question{0, 3, 3, true}, question{1, 3, 3, true}, question{0, 4, 1, true}, question{1, 4, 1, true}, question{2, 3, 3, true}, question{3, 4, 1, true}, question{0, 5, 2, true})
	for node := range w.Nodes() {
		if w.Rights(node) != 0 {
			t.Errorf("%d has rights behind a gate that was cut", node)
		}
	}
	for r := range api.RAll + 1 {
		after(t, newGate(), cut(0), grant(0, 3, r, 0), link(0, 1, 0, r, 0))
		after(t, newGate(), grant(0, 3, r, 0), link(1, 0, 0, r, 0), cut(0))
	}
}

// What may be done may be done ever after.
func TestMayEverAfter(t *testing.T) {
	m, other := module(t, "fun (arg) fun (ask (arg) (nil))"), module(t, "fun (nil)")
	w := after(t, load(0, m), load(1, m), newGate(), grant(0, 3, 3, 0), grant(1, 4, 1, -1), link(0, 1, 0, 8, 0), link(2, 1, 0, 0, -1))
	may := mays(w)
	for _, x := range []api.Step{
		load(0, other), load(1, other), load(0, m), load(2, m), load(3, m), load(0, api.Module{}), call(0, 0, 0), call(0, 1, 1), value(1, 0, 4), call(1, 1, 0),
		cut(0), newGate(), cut(1), cut(7), {}, {Kind: math.MinInt}, call(0, 0, 0), call(0, 9, 9), load(0, other),
	} {
		do(t, w, x)
		if mays(w) != may {
			t.Errorf("%s: May tells something else behind it", describe(x))
		}
	}
	// More may come to it, and nothing goes.
	for _, x := range []api.Step{grant(0, 3, 0, -1), grant(0, 3, 1, 0), grant(3, 3, 12, -1), link(3, 0, 1, 0, -1)} {
		prepare(t, w, x)
		ask(t, w, question{0, 3, 3, true}, question{1, 3, 3, true}, question{2, 4, 1, true})
	}
	ask(t, w, question{0, 3, 12, true}, question{3, 3, 3, true}, question{2, 3, 12, true}, question{2, 3, 15, false})
}

// May does nothing, whatever it is asked, and tells the same again.
func TestMayDoesNothing(t *testing.T) {
	w := watchOf(t, "fun (read (arg))", "fun (arg)")
	prepare(t, w, newGate(), grant(0, 3, 3, 0), link(1, 0, 0, 8, -1), call(0, 0, 0))
	before := state(w.House)
	for range 3 {
		wantMay(t, w, ledger{cells: []api.Step{grant(0, 3, 3, 0)}, links: []api.Step{link(1, 0, 0, 8, -1)}})
	}
	if state(w.House) != before {
		t.Errorf("%s, before: %s", state(w.House), before)
	}
}
