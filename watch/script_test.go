package watch

import (
	"fmt"
	"math/rand"
	"slices"
	"testing"

	"letterlock/api"
	"letterlock/house"
)

// script makes random steps for a house, which it knows.
type script struct {
	*rand.Rand
	t *testing.T
	h *house.House
	// only: the plugin all of whose capabilities go through the gate 0, and that nobody else may ask; -1: none
	only int
}

func newScript(t *testing.T, r *rand.Rand) *script {
	return &script{r, t, house.New(), -1}
}

func (s *script) one(texts ...string) string { return texts[s.Intn(len(texts))] }

// ability tells an expression that is likely to come to a capability.
func (s *script) ability() string {
	switch s.Intn(14) {
	case 0:
		return fmt.Sprintf("(narrow %d %s)", 15&^(s.Intn(16)&s.Intn(16)&s.Intn(16)), s.ability())
	case 1:
		return "(fst (wrap " + s.ability() + "))"
	case 2:
		return s.one("(snd (kept))", "(open (kept))", "(open (arg))", "(fst (arg))", "(open (fst (kept)))")
	case 3:
		return "(fst (kept))"
	case 4, 5, 6, 7:
		return "(kept)"
	}
	return "(arg)"
}

// thing tells an expression for what is handed on, or kept.
func (s *script) thing() string {
	switch s.Intn(10) {
	case 0:
		return "(seal " + s.ability() + ")"
	case 1:
		return "(pair " + s.ability() + " " + s.thing() + ")"
	case 2:
		return s.one("(num 7)", "(nil)", "(kept)", "(wrap (arg))", "(seal (kept))")
	}
	return s.ability()
}

// action tells an expression that does something.
func (s *script) action() string {
	switch s.Intn(12) {
	case 0, 1:
		return "(read " + s.ability() + ")"
	case 2, 3:
		return fmt.Sprintf("(write %s (num %d))", s.ability(), s.Intn(99))
	case 4, 5:
		return "(keep " + s.thing() + ")"
	case 6:
		return s.one("(cut (snd (kept)))", "(keep (pair (kept) (kept)))", "(keep (wrap (arg)))", "(keep (open (kept)))", "(keep (pair (arg) (kept)))", "(keep (fst (kept)))", "(cut (snd (wrap (arg))))")
	case 7:
		return fmt.Sprintf("(call %d %s)", s.Intn(2), s.thing())
	case 8:
		return "(keep (ask " + s.ability() + " " + s.thing() + "))"
	}
	return "(ask " + s.ability() + " " + s.thing() + ")"
}

// function tells one that does something, and comes to that or to something else.
func (s *script) function() string {
	text := s.one(s.action(), s.thing(), "(arg)", "(nil)", "(kept)")
	for range 1 + s.Intn(3) {
		text = "(let " + s.action() + " " + text + ")"
	}
	return text
}

// Most plugins have these functions, so that some calls of theirs lead on to others.
const (
	keeps = iota // what it is given
	takes        // a capability of a cell, from whoever asks
	asks         // by what it is given, with what is kept
	does         // something by what is kept
)

// role tells a function for one of these.
func (s *script) role(f int) string {
	switch {
	case f == keeps:
		return "(keep (arg))"
	case s.Intn(5) == 0:
		return s.function()
	case f == takes:
		return s.one("(keep (arg))", "(let (read (arg)) (keep (arg)))", "(let (write (arg) (num 5)) (arg))", "(let (keep (arg)) (read (arg)))", "(let (keep (narrow 7 (arg))) (nil))", "(keep (seal (arg)))", "(let (keep (wrap (arg))) (arg))")
	case f == asks:
		return s.one("(ask (arg) (kept))", "(ask (arg) (kept))", "(keep (ask (arg) (kept)))", "(ask (arg) (fst (wrap (kept))))", "(ask (arg) (narrow 7 (kept)))", "(let (ask (arg) (kept)) (read (kept)))", "(ask (arg) (arg))", "(open (ask (arg) (seal (kept))))")
	case f == does:
		return s.one("(read (kept))", "(write (kept) (arg))", "(let (write (kept) (num 3)) (keep (nil)))", "(read (fst (kept)))", "(read (open (kept)))", "(keep (open (kept)))", "(cut (snd (kept)))", "(read (narrow 5 (kept)))")
	}
	return s.function()
}

// module tells a module that is one.
func (s *script) module() api.Module {
	text := ""
	for f := range 4 + s.Intn(3) {
		text += "fun " + s.role(f) + " "
	}
	return module(s.t, text)
}

// sometimes tells a number from 0 to ahead of end, or, now and then, one that is none of these.
func (s *script) sometimes(end int) int {
	if s.Intn(40) > 0 {
		return s.Intn(end)
	}
	return append([]int{-1, end, end + 1}, far...)[s.Intn(3+len(far))]
}

func (s *script) gates() int {
	n := 0
	for s.h.Has(n) {
		n++
	}
	return n
}

// step tells a step, but what it is in the script's own house is not done.
func (s *script) step() api.Step {
	x := api.Step{P: s.sometimes(4), Q: s.sometimes(4), K: s.sometimes(6), R: s.sometimes(16), G: s.sometimes(s.gates()+1) - 1, H: s.sometimes(4) - 1, N: s.Int63n(9) - 2}
	if s.Intn(4) > 0 {
		x.R = api.RAll
	}
	switch k := s.Intn(100); {
	case k < 3:
		x.Kind = api.SGate
	case k < 6:
		x.Kind, x.M = api.SLoad, s.module()
	case k < 10:
		x.Kind, x.K = api.SGrant, s.sometimes(12)
	case k < 14:
		x.Kind = api.SLink
	case k < 15:
		x.Kind, x.G = api.SCut, s.sometimes(s.gates()+1)
	case k < 16:
		x.Kind = append([]int{0, -1, 7}, far...)[s.Intn(3+len(far))]
	default:
		x.Kind, x.K = api.SCall, s.sometimes(5)
		if s.Intn(20) > 0 {
			x.H = s.suited(x.P, x.K)
		}
	}
	return s.bound(x)
}

// suited tells which of a plugin's things it may be well to call a function with; -1: none.
func (s *script) suited(p, f int) int {
	var l []int
	for thing, v := range s.h.Hand(p) {
		n, _ := s.h.Target(int(v.N))
		if f != asks && n.Plugin < 0 || f == asks && n.Plugin >= 0 || s.Intn(8) == 0 {
			l = append(l, thing)
		}
	}
	if len(l) == 0 || f == does {
		return -1
	}
	return l[s.Intn(len(l))]
}

// bound lets a step be one of a script in which one plugin is to be cut off.
func (s *script) bound(x api.Step) api.Step {
	if s.only < 0 {
		return x
	}
	if x.P == s.only && (x.Kind == api.SGrant || x.Kind == api.SLink) {
		x.G = 0
	}
	if x.P != s.only && x.Q == s.only && x.Kind == api.SLink {
		x.Q = (s.only + 1) % api.MaxPlugins
	}
	return x
}

// begin tells steps after which much can be done: plugins are loaded, and were given something.
func (s *script) begin() []api.Step {
	l := []api.Step{newGate(), newGate()}
	for p := range api.MaxPlugins {
		l = append(l, load(p, s.module()))
	}
	for p := range api.MaxPlugins {
		l = append(l, grant(p, s.Intn(api.MaxCells), 15&^(s.Intn(16)&s.Intn(16)&s.Intn(16)), s.Intn(3)-1))
		if s.Intn(3) > 0 {
			l = append(l, link(p, s.Intn(4), takes, api.RAll, s.Intn(3)-1))
		}
	}
	for i := range l {
		l[i] = s.bound(l[i])
	}
	return l
}

// steps tells so many steps, which are done in the script's own house, too.
func (s *script) steps(many int) []api.Step {
	var l []api.Step
	for _, x := range s.begin() {
		if len(l) < many {
			l = append(l, x)
			s.h.Do(x)
		}
	}
	for len(l) < many {
		next := []api.Step{s.step()}
		if s.Intn(8) == 0 {
			next = s.walk()
		}
		for _, x := range next[:min(len(next), many-len(l))] {
			l = append(l, x)
			s.h.Do(x)
		}
	}
	return l
}

// walk tells calls by which a capability may go from plugin to plugin, each of which keeps it, and asks the next one with it.
func (s *script) walk() []api.Step {
	p := s.Intn(api.MaxPlugins)
	l := []api.Step{call(p, keeps, s.suited(p, keeps))}
	for range 3 {
		thing := s.suited(p, asks)
		l = append(l, call(p, asks, thing))
		if thing >= 0 {
			n, _ := s.h.Target(int(s.h.Hand(p)[thing].N))
			p = max(n.Plugin, 0)
		}
		l = append(l, value(p, does, s.Int63n(9)))
	}
	return l
}

// way tells a capability, that from which it comes, and so on.
func way(nodes []api.Node, node int) []api.Node {
	var l []api.Node
	for node >= 0 {
		l = append(l, nodes[node])
		node = nodes[node].Parent
	}
	return l
}

// wantEntry asks of an entry that came by a step that its plugin May do that, and by which capability it did it.
func wantEntry(t *testing.T, w *Watch, l ledger, e api.Entry, open []bool) {
	t.Helper()
	if !w.May(e.Plugin, e.Cell, e.Right) || !l.may(e.Plugin, e.Cell, e.Right) {
		t.Fatalf("%v: it may not do that", e)
	}
	all := way(w.Nodes(), e.Node)
	if last := all[len(all)-1]; last.Plugin != -1 || last.Cell != e.Cell {
		t.Fatalf("%v: the capability is of %v", e, last)
	}
	for _, n := range all {
		if n.Rights/e.Right%2 == 0 {
			t.Fatalf("%v: %v on its way has not that right", e, n)
		}
		// A gate that came by the step itself was not cut ahead of it.
		if n.Gate >= 0 && n.Gate < len(open) && !open[n.Gate] {
			t.Fatalf("%v: it was done through the gate %d, which was cut", e, n.Gate)
		}
	}
}

// counted is how often something came in random scripts.
type counted struct {
	codes          map[[2]int]int // kinds of steps and their codes
	entries        int
	linked, beyond int // of these: by what another plugin was given; by what one was given with which it has no link of its own
}

func (c *counted) count(l ledger, e api.Entry) {
	c.entries++
	own := ledger{cells: l.cells}
	if own.may(e.Plugin, e.Cell, e.Right) {
		return
	}
	c.linked++
	near := ledger{cells: l.cells}
	for _, x := range l.links {
		if x.P == e.Plugin || x.Q == e.Plugin {
			near.links = append(near.links, x)
		}
	}
	if !near.may(e.Plugin, e.Cell, e.Right) {
		c.beyond++
	}
}

// Each step comes to what the house's step comes to; nothing that may not be done is done; and May tells what the steps gave.
func TestManySteps(t *testing.T) {
	r := rand.New(rand.NewSource(1))
	often := counted{codes: map[[2]int]int{}}
	for round := range 700 {
		both, l := newPair(), ledger{}
		for at, x := range newScript(t, r).steps([]int{api.MaxSteps, 60, 60, 60}[round%4]) {
			ahead, open := len(both.w.World.Log()), openGates(both.w.House)
			e := both.do(t, x)
			l.note(x, e)
			often.codes[[2]int{max(0, min(x.Kind, api.SGate+1)), e.Code}]++
			for _, e := range both.w.World.Log()[ahead:] {
				wantEntry(t, both.w, l, e, open)
				often.count(l, e)
			}
			p, cell, right := r.Intn(6)-1, r.Intn(14)-1, r.Intn(18)-1
			if both.w.May(p, cell, right) != l.may(p, cell, right) {
				t.Fatalf("step %d: May tells something else of %d, %d, %d", at, p, cell, right)
			}
		}
		if got, want := mays(both.w), l.mays(); got != want {
			t.Fatalf("May tells %q, want %q", got, want)
		}
	}
	often.wantEnough(t)
}

func (c *counted) wantEnough(t *testing.T) {
	t.Helper()
	for kind, codes := range map[int][]int{
		api.SLoad:  {0, api.ErrRange},
		api.SGrant: {0, api.ErrRange, api.ErrNone, api.ErrFull},
		api.SLink:  {0, api.ErrRange, api.ErrNone, api.ErrFull},
		api.SCall:  {0, api.ErrRange, api.ErrNone, api.ErrKind, api.ErrRight, api.ErrDeep, api.ErrFull, api.ErrSeal, api.ErrMany},
		api.SCut:   {0, api.ErrNone},
		api.SGate:  {0, api.ErrFull},
		0:          {api.ErrKind},
		7:          {api.ErrKind},
	} {
		for _, code := range codes {
			if n := c.codes[[2]int{kind, code}]; n < 5 {
				t.Errorf("the kind %d came to the code %d %d times only", kind, code, n)
			}
		}
	}
	if c.entries < 5000 || c.linked < 800 || c.beyond < 50 {
		t.Errorf("%d entries, %d by what another plugin was given, %d of these through two links", c.entries, c.linked, c.beyond)
	}
}

// Two watches in which the same was done answer the same, and know nothing of each other.
func TestWatchesByThemselves(t *testing.T) {
	r := rand.New(rand.NewSource(2))
	for range 20 {
		steps := newScript(t, r).steps(120)
		a, b, idle := New(), New(), New()
		still := state(idle.House)
		var told []string
		for _, x := range steps {
			told = append(told, fmt.Sprint(do(t, a, x), state(a.House)))
		}
		may := mays(a)
		if state(b.House) != still || state(idle.House) != still || mays(b) != "" || mays(idle) != "" {
			t.Fatal("one watch knows of the other one")
		}
		for i, x := range steps {
			if got := fmt.Sprint(do(t, b, x), state(b.House)); got != told[i] {
				t.Fatalf("step %d: %s, want %s", i, got, told[i])
			}
		}
		if mays(b) != may || mays(a) != may || state(idle.House) != still {
			t.Fatal("the same was done, and something else may be done")
		}
	}
}

// Step by step in turns, too.
func TestWatchesInTurns(t *testing.T) {
	r := rand.New(rand.NewSource(3))
	var scripts [][]api.Step
	var watches []*Watch
	var got [3][]api.Event
	for range 3 {
		scripts, watches = append(scripts, newScript(t, r).steps(100)), append(watches, New())
	}
	for i := range 100 {
		for k, w := range watches {
			got[k] = append(got[k], do(t, w, scripts[k][i]))
		}
	}
	for k, l := range scripts {
		if !slices.EqualFunc(got[k], byDo(t, l), sameEvent) {
			t.Errorf("the script %d comes to something else beside others", k)
		}
	}
}
