package vm

import (
	"letterlock/api"
	"letterlock/compile"
	"letterlock/vals"
)

// frame is a call that is open: a machine, and what this call alone has.
type frame struct {
	*machine
	plugin int
	arg    api.Val
	names  []api.Val // those that are open, the innermost one last
	values []api.Val // what expressions came to, for those around them
}

// do tells what the instructions of a function come to. It ends: they lead ahead alone, and in each call there is a step.
func (f *frame) do(code []compile.Ins) api.Val {
	at := 0
	for {
		i := code[at]
		at++
		switch i.Op {
		case compile.OTick:
			f.step()
		case compile.OBind:
			f.names = append(f.names, f.pop())
		case compile.ODrop:
			f.names = f.names[:len(f.names)-1]
		case compile.OElse:
			if f.takeInt() == 0 {
				at = i.K
			}
		case compile.OJump:
			at = i.K
		case compile.OBack:
			return f.pop()
		default:
			f.push(f.plain(i))
		}
	}
}

// plain tells what an expression comes to, when what is in it came to the last values: the right one is the very last.
func (f *frame) plain(i compile.Ins) api.Val {
	switch i.Op {
	case api.ENum:
		return number(i.N)
	case api.EArg:
		return f.arg
	case api.EVar:
		return f.names[len(f.names)-1-i.K]
	case api.EBin:
		b := f.takeInt()
		return number(Arith(i.K, f.takeInt(), b))
	case api.EPair:
		b := f.pop()
		return whole(pair(f.pop(), b))
	case api.EFst:
		return f.take(api.VPair).L[0]
	case api.ESnd:
		return f.take(api.VPair).L[1]
	case api.ESeal:
		return whole(api.Val{Kind: api.VSeal, N: int64(f.plugin), L: []api.Val{f.pop()}})
	case api.EOpen:
		return f.unsealed(f.take(api.VSeal))
	case api.ERead:
		return f.read(f.takeCap())
	case api.EWrite:
		n := f.takeInt()
		return f.write(f.takeCap(), n)
	case api.ENarrow:
		return f.derive(f.takeCap(), i.K, -1)
	case api.EWrap:
		return f.wrap(f.takeCap())
	case api.ECut:
		f.Cut(int(f.take(api.VGate).N))
	case api.ECall:
		v := f.pop()
		f.needRoom()
		return f.call(f.plugin, i.K, v)
	case api.EAsk:
		v := f.pop()
		return f.ask(f.takeCap(), v)
	case api.EKeep:
		return f.keep(f.pop())
	case api.EKept:
		return f.Plugins[f.plugin].Kept
	}
	return api.Val{}
}

func (f *frame) push(v api.Val) {
	f.values = append(f.values, v)
}

// pop takes the last value.
func (f *frame) pop() api.Val {
	last := len(f.values) - 1
	v := f.values[last]
	f.values = f.values[:last]
	return v
}

// take takes the last value, which must be of a kind.
func (f *frame) take(kind int) api.Val {
	v := f.pop()
	need(v.Kind == kind, api.ErrKind)
	return v
}

func (f *frame) takeInt() int64 { return f.take(api.VInt).N }

func (f *frame) takeCap() int { return int(f.take(api.VCap).N) }

func (f *frame) unsealed(v api.Val) api.Val {
	need(v.N == int64(f.plugin), api.ErrSeal)
	return v.L[0]
}

func (f *frame) read(node int) api.Val {
	n, _ := f.World.Read(f.plugin, f.cell(node, api.RRead), node)
	return number(n)
}

func (f *frame) write(node int, n int64) api.Val {
	f.World.Write(f.plugin, f.cell(node, api.RWrite), node, n)
	return number(n)
}

// keep tells what was kept ahead.
func (f *frame) keep(v api.Val) api.Val {
	p := &f.Plugins[f.plugin]
	ahead := p.Kept
	// What is kept outlives the run, in which memory is shared.
	p.Kept = vals.Own(v)
	return ahead
}

func number(n int64) api.Val { return api.Val{Kind: api.VInt, N: n} }

func pair(a, b api.Val) api.Val { return api.Val{Kind: api.VPair, L: []api.Val{a, b}} }

// whole gives up on what has too many parts.
func whole(v api.Val) api.Val {
	code := vals.Check(v)
	need(code == 0, code)
	return v
}
