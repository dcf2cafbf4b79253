package vm

import (
	"letterlock/api"
	"letterlock/pass"
	"letterlock/rights"
	"letterlock/vals"
)

// machine is a box in which something runs.
type machine struct {
	*Box
	fuel, used int // steps
	calls      int // those that are open
}

// gaveUp is what a machine's own panic tells: a code.
type gaveUp int

// need gives up with a code, if something is not so.
func need(so bool, code int) {
	if !so {
		panic(gaveUp(code))
	}
}

// run tells what a function comes to, unless the machine gives up on it: then why. What it did ahead of that stays.
func (m *machine) run(plugin, f int, arg api.Val) (out api.Val, code int) {
	defer func() {
		if why, ok := recover().(gaveUp); ok {
			code = int(why)
		}
	}()
	// Within a run values share memory with each other, with the argument and with what is kept: an answer may not.
	return vals.Own(m.call(plugin, f, arg)), 0
}

// call tells what a function comes to that is there, and for which there is room.
// By way of what it calls it calls itself, but no more often than there is room.
func (m *machine) call(plugin, f int, arg api.Val) api.Val {
	m.calls++
	inner := frame{machine: m, plugin: plugin, arg: arg}
	out := inner.do(m.Plugins[plugin].Code[f])
	m.calls--
	return out
}

// needRoom is not a part of call, since it must be known ahead of what is done on the way to a call.
func (m *machine) needRoom() {
	need(m.calls < api.MaxFrames, api.ErrDeep)
}

func (m *machine) step() {
	need(m.used < m.fuel, api.ErrFuel)
	m.used++
}

// ask calls the function that a capability is of. What goes there and what comes back goes through the gates of that.
func (m *machine) ask(node int, v api.Val) api.Val {
	to := m.target(node, api.RAsk)
	need(isFunc(to), api.ErrKind)
	need(m.Plugins[to.Plugin].has(to.Func), api.ErrNone)
	m.needRoom()
	gates := m.Gates(node)
	out := m.call(to.Plugin, to.Func, m.across(v, gates))
	return m.across(out, gates)
}

func (m *machine) across(v api.Val, gates []int) api.Val {
	out, code := pass.Across(m.Graph, v, gates)
	need(code == 0, code)
	return out
}

// target tells what a capability is of, which must have a right.
func (m *machine) target(node, right int) api.Node {
	need(rights.Has(m.Rights(node), right), api.ErrRight)
	// It is there: otherwise it would have no rights.
	target, _ := m.Target(node)
	return target
}

// cell tells of which cell a capability is, which must have a right.
func (m *machine) cell(node, right int) int {
	target := m.target(node, right)
	need(!isFunc(target), api.ErrKind)
	return target.Cell
}

func isFunc(target api.Node) bool { return target.Plugin >= 0 }

// derive makes a capability that comes from another one.
func (m *machine) derive(node, right, gate int) api.Val {
	made, code := m.Derive(node, right, gate)
	need(code == 0, code)
	return api.Val{Kind: api.VCap, N: int64(made)}
}

// wrap makes a gate, and a capability that comes from another one through it.
func (m *machine) wrap(node int) api.Val {
	gate, code := m.Gate()
	need(code == 0, code)
	return pair(m.derive(node, api.RAll, gate), api.Val{Kind: api.VGate, N: int64(gate)})
}
