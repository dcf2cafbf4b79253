package house

import (
	"fmt"
	"math/rand"
	"strings"
	"testing"

	"letterlock/api"
	"letterlock/compile"
	"letterlock/vals"
	"letterlock/vm"
)

// model is a second reckoning: gates and capabilities stand in lists beside the box, and each step is written out by the chapter.
type model struct {
	box   *vm.Box
	gates []bool
	nodes []api.Node
	given []gift
}

// gift is that a plugin was given a capability.
type gift struct{ plugin, node int }

// things tells the capabilities that a plugin was given.
func (m *model) things(p int) []int {
	var l []int
	for _, g := range m.given {
		if g.plugin == p {
			l = append(l, g.node)
		}
	}
	return l
}

func (m *model) do(x api.Step) api.Event {
	e := api.Event{}
	switch x.Kind {
	case api.SLoad:
		e.Code = m.load(x)
	case api.SGrant, api.SLink:
		if e.Code = m.codeOfGift(x); e.Code == 0 {
			e.V = m.give(x)
		}
	case api.SCall:
		e = m.call(x)
	case api.SCut:
		if x.G < 0 || x.G >= len(m.gates) {
			e.Code = api.ErrNone
			break
		}
		m.gates[x.G] = false
	case api.SGate:
		if len(m.gates) == api.MaxGates {
			e.Code = api.ErrFull
			break
		}
		e.V = number(int64(len(m.gates)))
		m.gates = append(m.gates, true)
	default:
		e.Code = api.ErrKind
	}
	return e
}

func outside(n, end int) bool { return n < 0 || n >= end }

func (m *model) load(x api.Step) int {
	if outside(x.P, 4) {
		return api.ErrRange
	}
	made, fault := compile.Make(x.M)
	if fault.Code == 0 {
		p := &m.box.Plugins[x.P]
		p.There, p.Code, p.Kept = true, made, api.Val{Kind: api.VNil}
	}
	return fault.Code
}

func (m *model) codeOfGift(x api.Step) int {
	switch {
	case outside(x.P, 4), x.Kind == api.SGrant && outside(x.K, 12), x.Kind == api.SLink && (outside(x.Q, 4) || outside(x.K, 6)), outside(x.R, 16):
		return api.ErrRange
	case x.G != -1 && outside(x.G, len(m.gates)):
		return api.ErrNone
	case len(m.nodes) == api.MaxNodes:
		return api.ErrFull
	}
	return 0
}

func (m *model) give(x api.Step) api.Val {
	n := api.Node{Parent: -1, Gate: x.G, Rights: x.R, Cell: x.K, Plugin: -1}
	if x.Kind == api.SLink {
		n.Cell, n.Plugin, n.Func = 0, x.Q, x.K
	}
	m.given = append(m.given, gift{x.P, len(m.nodes)})
	m.nodes = append(m.nodes, n)
	return api.Val{Kind: api.VCap, N: int64(len(m.nodes) - 1)}
}

func (m *model) call(x api.Step) api.Event {
	v := number(x.N)
	if x.H >= 0 {
		l := m.things(x.P)
		if x.H >= len(l) {
			return api.Event{Code: api.ErrNone}
		}
		v = api.Val{Kind: api.VCap, N: int64(l[x.H])}
	}
	m.settle()
	out, fuel, code := m.box.Run(x.P, x.K, v, 2000)
	m.nodes, m.gates = m.box.Nodes(), nil
	for k := 0; m.box.Has(k); k++ {
		m.gates = append(m.gates, m.box.Open(k))
	}
	return api.Event{Code: code, Fuel: fuel, V: out}
}

// settle lays a graph anew that is what the lists tell: so what is in the box's graph comes from the model alone.
func (m *model) settle() {
	b := vm.New()
	for range m.gates {
		b.Gate()
	}
	for _, n := range m.nodes {
		switch {
		case n.Parent >= 0:
			b.Derive(n.Parent, n.Rights, n.Gate)
		case n.Plugin >= 0:
			b.Func(n.Plugin, n.Func, n.Rights, n.Gate)
		default:
			b.Cell(n.Cell, n.Rights, n.Gate)
		}
	}
	for k, open := range m.gates {
		if !open {
			b.Cut(k)
		}
	}
	m.box.Graph = b.Graph
}

// state tells the same as that of a house of which all this is so.
func (m *model) state() string {
	var text strings.Builder
	fmt.Fprintln(&text, "nodes", m.nodes)
	for k, open := range m.gates {
		fmt.Fprintln(&text, "gate", k, open)
	}
	fmt.Fprintln(&text, "cells", m.box.World.Cells(), m.box.World.Log())
	for p, x := range m.box.Plugins {
		var texts []string
		for _, n := range m.things(p) {
			texts = append(texts, fmt.Sprint("#", n))
		}
		kept := vals.Text(x.Kept)
		fmt.Fprintln(&text, "plugin", p, x.There, x.Code, kept, kept, strings.Join(texts, " "))
	}
	return text.String()
}

// functions are such as do something with a capability, with a number, or with what is kept.
var functions = []string{
	"(arg)", "(kept)", "(keep (arg))", "(keep (arg))", "(keep (pair (arg) (kept)))", "(read (arg))", "(read (kept))", "(write (arg) (num 7))", "(write (kept) (arg))",
	"(narrow 5 (arg))", "(keep (narrow 13 (arg)))", "(keep (wrap (arg)))", "(cut (snd (kept)))", "(read (fst (kept)))", "(seal (arg))", "(keep (seal (kept)))",
	"(open (kept))", "(open (arg))", "(ask (arg) (kept))", "(ask (kept) (arg))", "(ask (arg) (num 3))", "(keep (ask (arg) (kept)))", "(ask (arg) (arg))",
	"(let (write (arg) (num 4)) (fst (nil)))", "(let (keep (arg)) (ask (kept) (kept)))", "(if (arg) (call 0 (bin sub (arg) (num 1))) (kept))",
	"(call 0 (call 0 (arg)))", "(bin mul (arg) (read (kept)))", "(let (wrap (arg)) (ask (fst (var 0)) (num 2)))",
}

// growing are such as make more of what is kept, and seal and open it.
var growing = []string{"(seal (arg))", "(keep (pair (kept) (kept)))", "(open (ask (arg) (num 3)))", "(keep (pair (seal (kept)) (arg)))", "(kept)"}

// script makes random steps.
type script struct {
	*rand.Rand
	t         *testing.T
	functions []string // those of its plugins
	gates     int      // how many of 100 steps make one
}

// sometimes tells a number from 0 to ahead of end, or, now and then, one that is none of these.
func (s *script) sometimes(end int) int {
	if s.Intn(25) > 0 {
		return s.Intn(end)
	}
	return append([]int{-1, end, end + 1}, far...)[s.Intn(3+len(far))]
}

func (s *script) module() api.Module {
	if s.Intn(8) == 0 {
		return api.Module{Funcs: append(args(s.Intn(8)), wrong[s.Intn(len(wrong))].f)}
	}
	text := ""
	for range 1 + s.Intn(api.MaxFuncs) {
		text += "fun " + s.functions[s.Intn(len(s.functions))] + " "
	}
	return module(s.t, text)
}

// step tells one for a house that is as the model is.
func (s *script) step(m *model) api.Step {
	x := api.Step{P: s.sometimes(4), Q: s.sometimes(4), K: s.sometimes(6), R: s.sometimes(16), G: s.sometimes(len(m.gates)+1) - 1, N: s.Int63n(9) - 2}
	x.H = s.Intn(6) - 1
	switch k := s.Intn(100); {
	case k < s.gates:
		x.Kind = api.SGate
	case k < s.gates+6:
		x.Kind, x.M = api.SLoad, s.module()
	case k < 38:
		x.Kind, x.K = api.SGrant, s.sometimes(12)
	case k < 54:
		x.Kind = api.SLink
	case k < 57:
		x.Kind, x.G = api.SCut, s.sometimes(len(m.gates)+1)
	case k < 59:
		x.Kind = append([]int{0, -1, 7}, far...)[s.Intn(3+len(far))]
	default:
		x.Kind = api.SCall
		if l := m.things(x.P); len(l) > 0 && s.Intn(8) > 0 {
			x.H = s.Intn(len(l)+1) - 1
		}
	}
	if s.Intn(40) == 0 {
		x.H, x.N = s.sometimes(1), int64(s.sometimes(1))
	}
	if s.Intn(4) > 0 && (x.Kind == api.SGrant || x.Kind == api.SLink) {
		x.R = api.RAll
	}
	return x
}

// met is a kind of step, and a code to which it came.
type met struct{ kind, code int }

func TestManySteps(t *testing.T) {
	r := rand.New(rand.NewSource(12))
	often := map[met]int{}
	for round := range 200 {
		s := &script{r, t, functions, 5 + 12*(round%2)}
		if round%4 < 2 {
			s.functions = growing
		}
		h, m := New(), &model{box: vm.New()}
		for step := range api.MaxSteps {
			x := s.step(m)
			e, want := h.Do(x), m.do(x)
			if e.Code != want.Code || e.Fuel != want.Fuel || !vals.Same(e.V, want.V) {
				t.Fatalf("step %d: %s: %v, want %v", step, describe(x), e, want)
			}
			if got, want := state(h), m.state(); got != want {
				t.Fatalf("step %d: %s: %s, want %s", step, describe(x), got, want)
			}
			often[met{x.Kind, e.Code}]++
		}
	}
	for kind, codes := range map[int][]int{
		api.SLoad:  {0, api.ErrRange, api.ErrMany, api.ErrDeep, api.ErrKind, api.ErrForm},
		api.SGrant: {0, api.ErrRange, api.ErrNone, api.ErrFull},
		api.SLink:  {0, api.ErrRange, api.ErrNone, api.ErrFull},
		api.SCall:  {0, api.ErrRange, api.ErrNone, api.ErrKind, api.ErrRight, api.ErrDeep, api.ErrFull, api.ErrSeal, api.ErrMany},
		api.SCut:   {0, api.ErrNone},
		api.SGate:  {0, api.ErrFull},
		0:          {api.ErrKind},
	} {
		for _, code := range codes {
			if often[met{kind, code}] < 10 {
				t.Errorf("the kind %d came to the code %d %d times only", kind, code, often[met{kind, code}])
			}
		}
	}
}
