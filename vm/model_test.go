package vm

import (
	"fmt"
	"math"
	"math/rand"
	"slices"
	"testing"

	"letterlock/api"
	"letterlock/code"
	"letterlock/render"
	"letterlock/vals"
)

// model finds out in another way what a run comes to: it walks through the expressions themselves, hands codes back one by one,
// knows of each capability its rights and gates from its making on, and copies whatever it touches.
type model struct {
	there   [api.MaxPlugins]bool
	modules [api.MaxPlugins]api.Module
	kept    [api.MaxPlugins]api.Val
	nodes   []api.Node
	root    []int   // of each capability that on which its way ends
	meet    []int   // the bits that all on its way have
	behind  [][]int // the gates on its way
	open    []bool
	cells   [api.MaxCells]int64
	log     []api.Entry
	fuel    int
	used    int
}

// around is what an expression sees: where it runs, and with what.
type around struct {
	plugin int
	depth  int // calls that are open
	arg    api.Val
	names  []api.Val
}

func (m *model) makeNode(n api.Node) (int, int) {
	number := len(m.nodes)
	root, meet, behind := number, n.Rights, []int{}
	if n.Gate >= 0 {
		behind = append(behind, n.Gate)
	}
	if n.Parent >= 0 {
		root, meet, behind = m.root[n.Parent], meet&m.meet[n.Parent], append(behind, m.behind[n.Parent]...)
	}
	if number >= 80 {
		return 0, 11
	}
	m.nodes, m.root = append(m.nodes, n), append(m.root, root)
	m.meet, m.behind = append(m.meet, meet), append(m.behind, behind)
	return number, 0
}

func (m *model) derive(parent int64, r, gate int) (api.Val, int) {
	if parent >= int64(len(m.nodes)) {
		return api.Val{}, 8
	}
	n, code := m.makeNode(api.Node{Parent: int(parent), Gate: gate, Rights: r, Plugin: -1})
	return ability(n), code
}

// has tells whether a capability has one right.
func (m *model) has(node int64, right int) bool {
	if node >= int64(len(m.nodes)) || m.meet[node]/right%2 == 0 {
		return false
	}
	return !slices.ContainsFunc(m.behind[node], func(k int) bool { return !m.open[k] })
}

func parts(v api.Val) int {
	n := 1
	for _, inner := range v.L {
		n += parts(inner)
	}
	return n
}

func copied(v api.Val) api.Val {
	var l []api.Val
	for _, inner := range v.L {
		l = append(l, copied(inner))
	}
	return api.Val{Kind: v.Kind, N: v.N, L: l}
}

func (m *model) mayPass(v api.Val) bool {
	if v.Kind == api.VGate || v.Kind == api.VCap && !m.has(v.N, 4) {
		return false
	}
	return !slices.ContainsFunc(v.L, func(v api.Val) bool { return !m.mayPass(v) })
}

func (m *model) across(v api.Val, gates []int) (api.Val, int) {
	if !m.mayPass(v) {
		return api.Val{}, 9
	}
	v = copied(v)
	code := m.moved(&v, gates)
	return v, code
}

func (m *model) moved(v *api.Val, gates []int) int {
	for i := 0; v.Kind == api.VCap && i < len(gates); i++ {
		next, code := m.derive(v.N, 15, gates[i])
		if code != 0 {
			return code
		}
		*v = next
	}
	for i := range v.L {
		if code := m.moved(&v.L[i], gates); code != 0 {
			return code
		}
	}
	return 0
}

// eval tells what an expression comes to; its parts first.
func (m *model) eval(e api.Expr, in around) (api.Val, int) {
	if m.used >= m.fuel {
		return api.Val{}, 12
	}
	m.used++
	switch e.Op {
	case api.ELet:
		first, code := m.eval(e.L[0], in)
		if code != 0 {
			return api.Val{}, code
		}
		in.names = append([]api.Val{first}, in.names...)
		return m.eval(e.L[1], in)
	case api.EIf:
		first, code := m.eval(e.L[0], in)
		switch {
		case code != 0:
			return api.Val{}, code
		case first.Kind != api.VInt:
			return api.Val{}, 2
		case first.N == 0:
			return m.eval(e.L[2], in)
		}
		return m.eval(e.L[1], in)
	}
	var l []api.Val
	for _, inner := range e.L {
		v, code := m.eval(inner, in)
		if code != 0 {
			return api.Val{}, code
		}
		l = append(l, copied(v))
	}
	if !fits(e.Op, l) {
		return api.Val{}, 2
	}
	if e.Op == api.ECall || e.Op == api.EAsk {
		return m.outside(e, l, in)
	}
	if v, code, ok := m.withNode(e, l, in.plugin); ok {
		return v, code
	}
	return m.inside(e, l, in)
}

// fits tells whether values are of the kinds that are asked for.
func fits(op int, l []api.Val) bool {
	want := map[int][]int{
		api.EBin: {api.VInt, api.VInt}, api.EFst: {api.VPair}, api.ESnd: {api.VPair}, api.EOpen: {api.VSeal}, api.ERead: {api.VCap},
		api.EWrite: {api.VCap, api.VInt}, api.ENarrow: {api.VCap}, api.EWrap: {api.VCap}, api.ECut: {api.VGate}, api.EAsk: {api.VCap},
	}
	for i, kind := range want[op] {
		if l[i].Kind != kind {
			return false
		}
	}
	return true
}

// inside tells what comes of values alone, or of what is kept.
func (m *model) inside(e api.Expr, l []api.Val, in around) (api.Val, int) {
	v := api.Val{}
	switch e.Op {
	case api.ENum:
		v = number(e.N)
	case api.EArg:
		v = in.arg
	case api.EVar:
		v = in.names[e.K]
	case api.EBin:
		v = number(Arith(e.K, l[0].N, l[1].N))
	case api.EFst:
		v = l[0].L[0]
	case api.ESnd:
		v = l[0].L[1]
	case api.EOpen:
		if v = l[0].L[0]; l[0].N != int64(in.plugin) {
			return api.Val{}, 10
		}
	case api.EPair:
		v = pair(l[0], l[1])
	case api.ESeal:
		v = seal(int64(in.plugin), l[0])
	case api.EKept:
		v = m.kept[in.plugin]
	case api.EKeep:
		v, m.kept[in.plugin] = m.kept[in.plugin], l[0]
	}
	if parts(v) > 40 {
		return api.Val{}, 3
	}
	return v, 0
}

// withNode tells what is done by capabilities and gates; false: the expression does nothing so.
func (m *model) withNode(e api.Expr, l []api.Val, plugin int) (api.Val, int, bool) {
	switch e.Op {
	case api.ERead, api.EWrite:
		right := 1 + (e.Op - api.ERead)
		if !m.has(l[0].N, right) {
			return api.Val{}, 9, true
		}
		target := m.nodes[m.root[l[0].N]]
		if target.Plugin != -1 {
			return api.Val{}, 2, true
		}
		if right == 2 {
			m.cells[target.Cell] = l[1].N
		}
		m.log = append(m.log, api.Entry{Plugin: plugin, Cell: target.Cell, Right: right, Node: int(l[0].N)})
		return number(m.cells[target.Cell]), 0, true
	case api.ENarrow:
		v, code := m.derive(l[0].N, e.K, -1)
		return v, code, true
	case api.EWrap:
		if len(m.open) == 20 {
			return api.Val{}, 11, true
		}
		m.open = append(m.open, true)
		v, code := m.derive(l[0].N, 15, len(m.open)-1)
		return pair(v, gate(len(m.open)-1)), code, true
	case api.ECut:
		if l[0].N < int64(len(m.open)) {
			m.open[l[0].N] = false
		}
		return api.Val{}, 0, true
	}
	return api.Val{}, 0, false
}

// outside tells what a call or an ask comes to.
func (m *model) outside(e api.Expr, l []api.Val, in around) (api.Val, int) {
	if e.Op == api.ECall {
		if in.depth >= 20 {
			return api.Val{}, 4
		}
		return m.eval(m.modules[in.plugin].Funcs[e.K], around{in.plugin, in.depth + 1, l[0], nil})
	}
	if !m.has(l[0].N, 8) {
		return api.Val{}, 9
	}
	target := m.nodes[m.root[l[0].N]]
	switch {
	case target.Plugin == -1:
		return api.Val{}, 2
	case !m.there[target.Plugin] || target.Func >= len(m.modules[target.Plugin].Funcs):
		return api.Val{}, 8
	case in.depth >= 20:
		return api.Val{}, 4
	}
	gates := slices.Clone(m.behind[l[0].N])
	v, code := m.across(l[1], gates)
	if code == 0 {
		v, code = m.eval(m.modules[target.Plugin].Funcs[target.Func], around{target.Plugin, in.depth + 1, v, nil})
	}
	if code == 0 {
		v, code = m.across(v, gates)
	}
	return v, code
}

func (m *model) run(plugin, f int, arg api.Val, fuel int) (api.Val, int, int) {
	m.fuel, m.used = fuel, 0
	switch {
	case fuel < 0 || fuel > 2000 || plugin < 0 || plugin > 3:
		return api.Val{}, 0, 1
	case !m.there[plugin] || f < 0 || f >= len(m.modules[plugin].Funcs):
		return api.Val{}, 0, 8
	case vals.Check(arg) != 0:
		return api.Val{}, 0, vals.Check(arg)
	}
	v, code := m.eval(m.modules[plugin].Funcs[f], around{plugin, 1, copied(arg), nil})
	if code != 0 {
		v = api.Val{}
	}
	return v, m.used, code
}

// writer makes random modules. In most of them an argument is (a cell's capability (a function's capability, and an int)), and goes on as such.
type writer struct {
	*rand.Rand
	left int // how many expressions a function may have more
}

var leaf = api.Expr{Op: api.EArg}

func (w *writer) of(op int, l ...api.Expr) api.Expr { return api.Expr{Op: op, L: l} }

// expr tells an expression that is likely to come to a value of a kind.
func (w *writer) expr(kind, depth int, names []int) api.Expr {
	w.left--
	if w.Intn(150) == 0 {
		kind = w.Intn(6)
	}
	if depth > 12 || w.left < 12 {
		return w.small(kind)
	}
	in := func(kind int) api.Expr { return w.expr(kind, depth+1, names) }
	switch w.Intn(12) {
	case 0:
		first := w.Intn(6)
		if len(names) < api.MaxLets {
			return w.of(api.ELet, in(first), w.expr(kind, depth+1, append([]int{first}, names...)))
		}
	case 1:
		return w.of(api.EIf, in(api.VInt), in(kind), in(kind))
	case 2, 3:
		if k := slices.Index(names, kind); k >= 0 {
			return api.Expr{Op: api.EVar, K: k}
		}
	case 4:
		return w.of(api.EFst, w.of(api.EPair, in(kind), in(w.Intn(6))))
	case 5:
		return w.of(api.ESnd, w.of(api.EPair, in(w.Intn(6)), in(kind)))
	case 6:
		if w.Intn(8) == 0 {
			return w.of(api.EOpen, []api.Expr{leaf, w.of(api.EKept), w.of(api.EAsk, w.asked(), w.goingOn(in))}[w.Intn(3)])
		}
		return w.of(api.EOpen, w.of(api.ESeal, in(kind)))
	}
	return w.special(kind, in)
}

// small tells an expression without much in it, of a kind.
func (w *writer) small(kind int) api.Expr {
	switch kind {
	case api.VNil:
		return w.of(api.ENil)
	case api.VInt:
		return []api.Expr{{Op: api.ENum, N: w.Int63n(5) - 1}, {Op: api.ENum, N: extremes[w.Intn(len(extremes))]}, w.of(api.ESnd, w.of(api.ESnd, leaf))}[w.Intn(3)]
	case api.VCap:
		return w.capability()
	case api.VSeal:
		return w.of(api.ESeal, leaf)
	case api.VGate:
		return w.of(api.ESnd, w.of(api.EWrap, w.capability()))
	}
	return leaf
}

func (w *writer) capability() api.Expr {
	switch w.Intn(50) {
	case 0:
		return w.of(api.EKept)
	case 1:
		return w.asked()
	}
	return w.of(api.EFst, leaf)
}

func (w *writer) asked() api.Expr { return w.of(api.EFst, w.of(api.ESnd, leaf)) }

// goingOn tells an expression for an argument of another function.
func (w *writer) goingOn(in func(int) api.Expr) api.Expr {
	switch w.Intn(8) {
	case 0:
		return in(w.Intn(6))
	case 1:
		return w.of(api.EPair, w.of(api.EFst, leaf), w.of(api.EPair, w.asked(), in(api.VInt)))
	case 2:
		return w.of(api.ESeal, leaf)
	case 3:
		return w.of(api.EPair, api.Expr{Op: api.ENarrow, K: 15 &^ (1 << w.Intn(8)), L: []api.Expr{w.of(api.EFst, leaf)}}, w.of(api.ESnd, leaf))
	}
	return leaf
}

// special tells an expression that only one of a kind comes to.
func (w *writer) special(kind int, in func(int) api.Expr) api.Expr {
	switch x := w.Intn(10); {
	case x == 0 && kind == api.VInt || w.Intn(100) == 0:
		return w.of(api.EAsk, w.asked(), w.goingOn(in))
	case x == 1 && kind <= api.VInt:
		return api.Expr{Op: api.ECall, K: 1 - kind, L: []api.Expr{w.goingOn(in)}}
	case x == 2 && kind == api.VNil:
		return w.of(api.EKeep, in(w.Intn(6)))
	case kind == api.VInt && x < 5:
		return w.of(api.ERead, in(api.VCap))
	case kind == api.VInt && x < 7:
		return w.of(api.EWrite, in(api.VCap), in(api.VInt))
	case kind == api.VInt:
		return api.Expr{Op: api.EBin, K: 1 + w.Intn(5), L: []api.Expr{in(api.VInt), in(api.VInt)}}
	case kind == api.VCap && x < 5:
		return api.Expr{Op: api.ENarrow, K: w.Intn(16) | w.Intn(16) | w.Intn(16), L: []api.Expr{in(api.VCap)}}
	case kind == api.VCap && x < 6:
		return w.of(api.EFst, w.of(api.EWrap, in(api.VCap)))
	case kind == api.VNil && x < 6:
		return w.of(api.ECut, in(api.VGate))
	case kind == api.VPair && x < 6:
		return w.of(api.EPair, in(w.Intn(6)), in(w.Intn(6)))
	case kind == api.VPair && x < 7:
		return w.of(api.EWrap, in(api.VCap))
	case kind == api.VSeal:
		return w.of(api.ESeal, in(w.Intn(6)))
	}
	return w.small(kind)
}

// module tells a module that is one: now and then a function is too great, and then it is written anew.
// The first function is to come to an int, and the second one to nil: so it is known what a call of them is good for.
func (w *writer) module() api.Module {
	for {
		var m api.Module
		for range 2 + w.Intn(3) {
			w.left = 25 + w.Intn(30)
			kind := w.Intn(6)
			if made := len(m.Funcs); made < 2 {
				kind = 1 - made
			}
			m.Funcs = append(m.Funcs, w.expr(kind, 0, nil))
			if w.Intn(4) == 0 && len(m.Funcs) > 2 {
				m.Funcs[2] = w.of(api.EOpen, leaf)
			}
		}
		if code.Check(m).Code == 0 {
			return m
		}
	}
}

// twins are boxes and a model in which the same is done.
type twins struct {
	model
	boxes []*Box
}

func (x *twins) each(do func(b *Box)) {
	for _, b := range x.boxes {
		do(b)
	}
}

func (x *twins) load(t *testing.T, plugin int, m api.Module) {
	x.there[plugin], x.modules[plugin], x.kept[plugin] = true, m, api.Val{}
	x.each(func(b *Box) { loadModule(t, b, plugin, m) })
}

func (x *twins) gate() {
	if len(x.open) < 20 {
		x.open = append(x.open, true)
		x.each(func(b *Box) { b.Gate() })
	}
}

func (x *twins) cell(cell, r, gate int) {
	x.makeNode(api.Node{Parent: -1, Gate: gate, Rights: r, Cell: cell, Plugin: -1})
	x.each(func(b *Box) { b.Cell(cell, r, gate) })
}

func (x *twins) function(plugin, f, r, gate int) {
	x.makeNode(api.Node{Parent: -1, Gate: gate, Rights: r, Plugin: plugin, Func: f})
	x.each(func(b *Box) { b.Func(plugin, f, r, gate) })
}

func (x *twins) derived(parent, r, gate int) {
	x.makeNode(api.Node{Parent: parent, Gate: gate, Rights: r, Plugin: -1})
	x.each(func(b *Box) { b.Derive(parent, r, gate) })
}

// sameState tells whether a box is as the model is.
func (x *twins) sameState(b *Box) bool {
	for k, open := range x.open {
		if !b.Has(k) || b.Open(k) != open {
			return false
		}
	}
	for p := range x.kept {
		if !vals.Same(x.kept[p], b.Plugins[p].Kept) {
			return false
		}
	}
	return !b.Has(len(x.open)) && slices.Equal(b.Nodes(), x.nodes) && slices.Equal(b.World.Cells(), x.cells[:]) && slices.Equal(b.World.Log(), x.log)
}

// begin lays plugins, gates and capabilities: 0 to 3 are of cells, 4 to 9 of functions.
func begin(t *testing.T, w *writer) *twins {
	x := &twins{boxes: []*Box{New(), New()}}
	for range w.Intn(4) + 1 {
		x.gate()
	}
	rights := func() int { return 15 &^ (w.Intn(16) & w.Intn(16) & w.Intn(16) & w.Intn(16)) }
	through := func() int { return max(-1, w.Intn(len(x.open)+3)-3) }
	for range 4 {
		x.cell(w.Intn(12), rights(), through())
	}
	for range 4 {
		x.function(w.Intn(4), w.Intn(4)*w.Intn(2)*w.Intn(2), rights(), through())
	}
	for range 2 {
		x.derived(4+w.Intn(4), rights(), through())
	}
	if w.Intn(3) == 0 {
		for range w.Intn(70) {
			x.cell(0, 0, -1)
		}
	}
	for p := range 4 {
		if w.Intn(12) > 0 {
			x.load(t, p, w.module())
		}
	}
	return x
}

// argument tells a value for a run, most often one that functions look for.
func argument(w *writer, nodes int) api.Val {
	v := pair(ability(w.Intn(4)), pair(ability(4+w.Intn(6)), number(w.Int63n(4))))
	switch w.Intn(30) {
	case 0:
		return ability(w.Intn(nodes + 2))
	case 1:
		return pair(ability(w.Intn(nodes+2)), v)
	case 2:
		return seal(w.Int63n(5), v)
	case 3:
		return pair(ability(4), pair(ability(0), gate(w.Intn(5))))
	case 4:
		return []api.Val{{}, number(w.Int63()), ability(-1), ability(math.MaxInt), {Kind: 6}, {N: 1}, sized(40), sized(41), gate(0)}[w.Intn(9)]
	case 5:
		v.L[0].N = int64(w.Intn(nodes))
	}
	return v
}

// Boxes in which the same is done answer the same, and as the model does, in value, steps, code and all that is there behind it.
func TestManyRuns(t *testing.T) {
	codes, asks := make(map[int]int), 0
	for seed := range int64(5000) {
		w := &writer{Rand: rand.New(rand.NewSource(seed))}
		x := begin(t, w)
		for range 12 {
			if w.Intn(20) == 0 {
				k := w.Intn(len(x.open))
				x.open[k] = false
				x.each(func(b *Box) { b.Cut(k) })
			}
			plugin, f, fuel := w.Intn(4), w.Intn(2), 2000
			if w.Intn(20) == 0 {
				plugin, f, fuel = w.Intn(6)-1, w.Intn(7)-1, []int{-1, 0, 1, 5, 30, 100, 1999, 2001}[w.Intn(8)]
			}
			arg := argument(w, len(x.nodes))
			ahead := len(x.log)
			want, used, code := x.run(plugin, f, arg, fuel)
			codes[code]++
			if slices.ContainsFunc(x.log[ahead:], func(e api.Entry) bool { return e.Plugin != plugin }) {
				asks++
			}
			for i, b := range x.boxes {
				out, gotUsed, gotCode := b.Run(plugin, f, arg, fuel)
				if gotUsed != used || gotCode != code || !vals.Same(out, want) || !x.sameState(b) || shares(out, b.Plugins[0].Kept) {
					t.Fatalf("seed %d, box %d: function %d of %d with %s and %d: %s in %d, %d, want %s in %d, %d\n%s", seed, i, f, plugin, vals.Text(arg), fuel,
						vals.Text(out), gotUsed, gotCode, vals.Text(want), used, code, x.texts())
				}
			}
		}
	}
	for _, code := range []int{0, api.ErrRange, api.ErrKind, api.ErrMany, api.ErrDeep, api.ErrForm, api.ErrNone, api.ErrRight, api.ErrSeal, api.ErrFull, api.ErrFuel} {
		if codes[code] < 20 {
			t.Errorf("%d came only %d times", code, codes[code])
		}
	}
	if asks < 500 {
		t.Errorf("only %d times one that was asked did something", asks)
	}
}

// texts tells the plugins, for a test that failed.
func (x *twins) texts() string {
	all := ""
	for p, m := range x.modules {
		text, _ := render.Print(m)
		all += fmt.Sprintf("%d:\n%s", p, text)
	}
	return all + fmt.Sprint(x.nodes, x.open, x.kept)
}
