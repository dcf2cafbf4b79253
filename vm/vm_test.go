package vm

import (
	"fmt"
	"math"
	"math/big"
	"math/rand"
	"reflect"
	"slices"
	"strings"
	"testing"

	"letterlock/api"
	"letterlock/compile"
	"letterlock/parse"
	"letterlock/vals"
)

// far are numbers of which nothing is, some of which are a thing's number in their low bits.
var far = []int{
	math.MinInt, math.MinInt + 1, math.MinInt + 4, -1 << 32, -256, -2,
	256, 1 << 32, 1<<32 + 2, 1 << 62, math.MaxInt - 1, math.MaxInt,
}

func ability(n int) api.Val           { return api.Val{Kind: api.VCap, N: int64(n)} }
func gate(n int) api.Val              { return api.Val{Kind: api.VGate, N: int64(n)} }
func seal(n int64, v api.Val) api.Val { return api.Val{Kind: api.VSeal, N: n, L: []api.Val{v}} }

// sized tells a value of so many parts that is not deep.
func sized(parts int) api.Val {
	switch parts {
	case 1:
		return number(7)
	case 2:
		return seal(1, number(7))
	}
	left := (parts - 1) / 2
	return pair(sized(left), sized(parts-1-left))
}

// load lets a plugin be a module, which keeps nothing.
func load(t *testing.T, b *Box, plugin int, text string) {
	t.Helper()
	m, f := parse.Parse(text)
	if f.Code != 0 {
		t.Fatalf("%s: %v", text, f)
	}
	loadModule(t, b, plugin, m)
}

func loadModule(t *testing.T, b *Box, plugin int, m api.Module) {
	t.Helper()
	made, f := compile.Make(m)
	if f.Code != 0 {
		t.Fatalf("%v: %v", m, f)
	}
	b.Plugins[plugin] = Plugin{There: true, Code: made}
}

// boxOf tells a box with a plugin of each text; of an empty text there is none.
func boxOf(t *testing.T, texts ...string) *Box {
	t.Helper()
	b := New()
	for p, text := range texts {
		if text != "" {
			load(t, b, p, text)
		}
	}
	return b
}

// made fails, if there is a code beside a number.
func made(t *testing.T, n, code int) int {
	t.Helper()
	if code != 0 {
		t.Fatalf("the box has no more room: %d", code)
	}
	return n
}

// gates makes so many gates.
func gates(t *testing.T, b *Box, many int) {
	t.Helper()
	for range many {
		n, code := b.Gate()
		made(t, n, code)
	}
}

// cell makes a capability of a cell.
func cell(t *testing.T, b *Box, cell, r, gate int) api.Val {
	t.Helper()
	n, code := b.Cell(cell, r, gate)
	return ability(made(t, n, code))
}

// function makes a capability of a function.
func function(t *testing.T, b *Box, plugin, f, r, gate int) api.Val {
	t.Helper()
	n, code := b.Func(plugin, f, r, gate)
	return ability(made(t, n, code))
}

// derived makes a capability that comes from another one.
func derived(t *testing.T, b *Box, from api.Val, r, gate int) api.Val {
	t.Helper()
	n, code := b.Derive(int(from.N), r, gate)
	return ability(made(t, n, code))
}

// room fills a box, until so many capabilities may be made.
func room(b *Box, more int) {
	for len(b.Nodes()) < api.MaxNodes-more {
		b.Cell(11, 0, -1)
	}
}

// gateRoom fills a box, until so many gates may be made.
func gateRoom(b *Box, more int) {
	for !b.Has(api.MaxGates - 1 - more) {
		b.Gate()
	}
}

// state tells all that may be seen of a box.
func state(b *Box) string {
	var text strings.Builder
	fmt.Fprintln(&text, "nodes", b.Nodes())
	for k := 0; b.Has(k); k++ {
		fmt.Fprintln(&text, "gate", k, b.Open(k))
	}
	fmt.Fprintln(&text, "cells", b.World.Cells(), b.World.Log())
	for p, x := range b.Plugins {
		fmt.Fprintln(&text, "plugin", p, x.There, vals.Text(x.Kept))
	}
	return text.String()
}

func wantFuel(t *testing.T, b *Box, plugin, f int, arg api.Val, fuel int, text string, steps int) {
	t.Helper()
	out, used, code := b.Run(plugin, f, arg, fuel)
	if code != 0 || vals.Text(out) != text || used != steps {
		t.Errorf("function %d of %d with %.100s: %s in %d, %d, want %s in %d", f, plugin, vals.Text(arg), vals.Text(out), used, code, text, steps)
	}
}

func wantFuelCode(t *testing.T, b *Box, plugin, f int, arg api.Val, fuel int, want, steps int) {
	t.Helper()
	out, used, code := b.Run(plugin, f, arg, fuel)
	if code != want || used != steps {
		t.Errorf("function %d of %d with %.100s: %d in %d, want %d in %d", f, plugin, vals.Text(arg), code, used, want, steps)
	}
	if !reflect.DeepEqual(out, api.Val{}) {
		t.Errorf("function %d of %d with %.100s: there is a value beside the code", f, plugin, vals.Text(arg))
	}
}

// wantValue asks for what a function comes to, and in how many steps.
func wantValue(t *testing.T, b *Box, plugin, f int, arg api.Val, text string, steps int) {
	t.Helper()
	wantFuel(t, b, plugin, f, arg, api.MaxFuel, text, steps)
}

// wantCode asks for the code that a function comes to, and in how many steps.
func wantCode(t *testing.T, b *Box, plugin, f int, arg api.Val, code, steps int) {
	t.Helper()
	wantFuelCode(t, b, plugin, f, arg, api.MaxFuel, code, steps)
}

// wantStill asks that nothing is done.
func wantStill(t *testing.T, b *Box, do func()) {
	t.Helper()
	before := state(b)
	do()
	if after := state(b); after != before {
		t.Errorf("something was done: %s, before: %s", after, before)
	}
}

// did tells an entry of the log.
func did(plugin, cell, right, node int) api.Entry {
	return api.Entry{Plugin: plugin, Cell: cell, Right: right, Node: node}
}

// wantLog asks for the entries of the log behind some of them.
func wantLog(t *testing.T, b *Box, ahead int, want ...api.Entry) {
	t.Helper()
	if got := b.World.Log(); len(got) < ahead || !slices.Equal(got[ahead:], want) {
		t.Errorf("the log is %v, behind %d want %v", got, ahead, want)
	}
}

// wantNodes asks for the capabilities behind some of them.
func wantNodes(t *testing.T, b *Box, ahead int, want ...api.Node) {
	t.Helper()
	if got := b.Nodes(); len(got) < ahead || !slices.Equal(got[ahead:], want) {
		t.Errorf("the capabilities are %v, behind %d want %v", got, ahead, want)
	}
}

// from tells a capability that comes from another one.
func from(parent, r, gate int) api.Node {
	return api.Node{Parent: parent, Gate: gate, Rights: r, Plugin: -1}
}

func TestNew(t *testing.T) {
	b := New()
	if len(b.Nodes()) != 0 || b.Has(0) || len(b.World.Log()) != 0 || !slices.Equal(b.World.Cells(), make([]int64, api.MaxCells)) {
		t.Errorf("something is there: %s", state(b))
	}
	for p, x := range b.Plugins {
		if !reflect.DeepEqual(x, Plugin{}) {
			t.Errorf("there is a plugin %d: %v", p, x)
		}
		wantStill(t, b, func() { wantCode(t, b, p, 0, number(1), api.ErrNone, 0) })
	}
	if len(b.Plugins) != api.MaxPlugins {
		t.Errorf("there is room for %d plugins", len(b.Plugins))
	}
}

// What a box does is what its graph does: the names of the one are those of the other.
func TestABoxIsAGraph(t *testing.T) {
	b := New()
	gates(t, b, 1)
	c := cell(t, b, 4, api.RAll, 0)
	if b.Graph.Rights(int(c.N)) != api.RAll || !b.Graph.Open(0) {
		t.Error("the graph does not know what the box made")
	}
	b.Graph.Cut(0)
	if b.Open(0) || b.Rights(int(c.N)) != 0 {
		t.Error("the box does not know what the graph did")
	}
}

func TestArith(t *testing.T) {
	const least, most = math.MinInt64, math.MaxInt64
	for _, x := range []struct {
		k          int
		a, b, want int64
	}{
		{api.KAdd, 2, 3, 5}, {api.KAdd, -2, 3, 1}, {api.KAdd, 0, 0, 0}, {api.KAdd, most, 1, least}, {api.KAdd, 1, most, least},
		{api.KAdd, least, -1, most}, {api.KAdd, most, most, -2}, {api.KAdd, least, least, 0}, {api.KAdd, most, least, -1},
		{api.KSub, 2, 3, -1}, {api.KSub, 3, 2, 1}, {api.KSub, least, 1, most}, {api.KSub, most, -1, least}, {api.KSub, 0, least, least},
		{api.KSub, least, most, 1}, {api.KSub, most, least, -1}, {api.KSub, least, least, 0}, {api.KSub, -1, least, most},
		{api.KMul, 2, 3, 6}, {api.KMul, -2, 3, -6}, {api.KMul, 0, most, 0}, {api.KMul, least, -1, least}, {api.KMul, most, 2, -2},
		{api.KMul, most, most, 1}, {api.KMul, least, least, 0}, {api.KMul, least, most, least}, {api.KMul, 1 << 32, 1 << 32, 0},
		{api.KMul, 1 << 32, 1 << 31, least}, {api.KMul, 3037000500, 3037000500, -9223372036709301616},
		{api.KLess, 2, 3, 1}, {api.KLess, 3, 2, 0}, {api.KLess, 3, 3, 0}, {api.KLess, -1, 0, 1}, {api.KLess, 0, -1, 0},
		{api.KLess, least, most, 1}, {api.KLess, most, least, 0}, {api.KLess, least, least, 0}, {api.KLess, most - 1, most, 1},
		{api.KLess, least, least + 1, 1}, {api.KLess, least, 0, 1}, {api.KLess, 0, most, 1}, {api.KLess, most, -1, 0},
		{api.KEq, 2, 3, 0}, {api.KEq, 3, 3, 1}, {api.KEq, 0, 0, 1}, {api.KEq, most, most, 1}, {api.KEq, least, least, 1},
		{api.KEq, least, most, 0}, {api.KEq, 1 << 32, 0, 0}, {api.KEq, least, 0, 0}, {api.KEq, -1, 1, 0}, {api.KEq, most, most - 1, 0},
	} {
		if got := Arith(x.k, x.a, x.b); got != x.want {
			t.Errorf("%d of %d and %d: %d, want %d", x.k, x.a, x.b, got, x.want)
		}
	}
}

func TestArithOfNone(t *testing.T) {
	for _, k := range append([]int{0, -1, -5, api.KEq + 1, 7, 100, 257, 1<<32 + api.KAdd}, far...) {
		for _, n := range []int64{0, 1, -1, 5, math.MaxInt64, math.MinInt64} {
			if Arith(k, n, n) != 0 || Arith(k, n, 3) != 0 || Arith(k, 3, n) != 0 {
				t.Errorf("%d of %d is not 0", k, n)
			}
		}
	}
}

// wrapped tells the number of 64 bits that is the same as a great one but for a multiple of 2^64.
func wrapped(n *big.Int) int64 {
	bits := new(big.Int).And(n, new(big.Int).SetUint64(math.MaxUint64))
	return int64(bits.Uint64())
}

func TestArithIsExact(t *testing.T) {
	r := rand.New(rand.NewSource(1))
	for range 100000 {
		x, y := r.Uint64()>>r.Intn(64), r.Uint64()>>r.Intn(64)
		a, b := int64(x), int64(y)
		if r.Intn(4) == 0 {
			b = a + r.Int63n(3) - 1
		}
		p, q := big.NewInt(a), big.NewInt(b)
		order := p.Cmp(q)
		for k, want := range map[int]int64{
			api.KAdd: wrapped(new(big.Int).Add(p, q)), api.KSub: wrapped(new(big.Int).Sub(p, q)), api.KMul: wrapped(new(big.Int).Mul(p, q)),
			api.KLess: int64((1 - order) / 2), api.KEq: int64(1 - order*order),
		} {
			if got := Arith(k, a, b); got != want {
				t.Fatalf("%d of %d and %d: %d, want %d", k, a, b, got, want)
			}
		}
	}
}

// noValues are things that are no values, and why.
func noValues() map[int][]api.Val {
	inSelf := []api.Val{number(1), {Kind: api.VPair}}
	inSelf[1].L = inSelf
	sealed := []api.Val{{Kind: api.VSeal}}
	sealed[0].L = sealed
	return map[int][]api.Val{
		api.ErrMany: {sized(api.MaxValue + 1), {Kind: 9, L: make([]api.Val, api.MaxValue)}, inSelf[1], sealed[0], pair(inSelf[1], inSelf[1]), sized(100000)},
		api.ErrKind: {{Kind: -1}, {Kind: 6}, {Kind: math.MaxInt}, {Kind: 256 + api.VInt}, pair(api.Val{Kind: 6}, ability(-1)), seal(1, api.Val{Kind: 9})},
		api.ErrForm: {
			{N: 1}, {Kind: api.VPair}, {Kind: api.VPair, N: 1, L: make([]api.Val, 2)}, {Kind: api.VSeal}, {Kind: api.VInt, L: make([]api.Val, 1)},
			{Kind: api.VCap, N: -1, L: make([]api.Val, 1)}, {Kind: api.VPair, L: make([]api.Val, 3)}, pair(number(1), api.Val{N: -1}),
			{Kind: api.VPair, L: []api.Val{}}, {Kind: api.VSeal, L: []api.Val{}},
		},
		api.ErrRange: {ability(-1), gate(-1), seal(-1, number(1)), ability(math.MinInt), pair(ability(-1), api.Val{Kind: 6}), seal(1, gate(-5))},
	}
}

func TestFuelAndPluginsOutOfRange(t *testing.T) {
	b := boxOf(t, "fun (keep (arg))", "", "", "fun (keep (arg))")
	wantStill(t, b, func() {
		for _, fuel := range append([]int{-1, api.MaxFuel + 1, 10 * api.MaxFuel}, far[:6]...) {
			for p := range api.MaxPlugins {
				wantFuelCode(t, b, p, 0, number(1), fuel, api.ErrRange, 0)
			}
		}
		for _, fuel := range []int{1 << 32, 1<<32 + 5, math.MaxInt, math.MinInt + 5} {
			wantFuelCode(t, b, 0, 0, number(1), fuel, api.ErrRange, 0)
		}
		for _, p := range append([]int{-1, api.MaxPlugins, api.MaxPlugins + 1}, far...) {
			wantCode(t, b, p, 0, number(1), api.ErrRange, 0)
			wantFuelCode(t, b, p, 0, number(1), -1, api.ErrRange, 0)
			wantFuelCode(t, b, p, 0, number(1), 0, api.ErrRange, 0)
		}
	})
}

func TestPluginsAndFunctionsThatAreNotThere(t *testing.T) {
	b := boxOf(t, "fun (num 0)", "", "fun (num 20) fun (num 21) fun (num 22)", "fun (num 30) fun (num 31) fun (num 32) fun (num 33) fun (num 34) fun (num 35)")
	// One that is not there has no functions, even if it has code.
	b.Plugins[1].Code = b.Plugins[2].Code
	wantStill(t, b, func() {
		for p, many := range []int{1, 0, 3, 6} {
			for f := range many {
				wantValue(t, b, p, f, number(1), fmt.Sprint(p*10+f), 1)
			}
			for _, f := range append([]int{-1, many, many + 1, api.MaxFuncs}, far...) {
				wantCode(t, b, p, f, number(1), api.ErrNone, 0)
				wantFuelCode(t, b, p, f, number(1), 0, api.ErrNone, 0)
			}
		}
	})
	b.Plugins[1].There = true
	wantValue(t, b, 1, 2, number(1), "22", 1)
	b.Plugins[2].There = false
	wantCode(t, b, 2, 0, number(1), api.ErrNone, 0)
}

// A plugin without functions is there, but none can be called.
func TestPluginsWithoutCode(t *testing.T) {
	b := New()
	b.Plugins[0] = Plugin{There: true}
	b.Plugins[1] = Plugin{There: true, Code: [][]compile.Ins{}}
	for p := range 2 {
		for _, f := range []int{-1, 0, 1} {
			wantCode(t, b, p, f, number(1), api.ErrNone, 0)
		}
	}
}

func TestArgumentsThatAreNoValues(t *testing.T) {
	b := boxOf(t, "fun (keep (arg))")
	wantStill(t, b, func() {
		for want, things := range noValues() {
			for _, v := range things {
				wantFuelCode(t, b, 0, 0, v, api.MaxFuel, want, 0)
				wantFuelCode(t, b, 0, 0, v, 0, want, 0)
			}
		}
	})
}

// Which code comes first, where several are so.
func TestCodesAhead(t *testing.T) {
	b := boxOf(t, "fun (num 1)")
	for _, things := range noValues() {
		for _, v := range things {
			for _, fuel := range []int{-1, api.MaxFuel + 1} {
				wantFuelCode(t, b, 0, 0, v, fuel, api.ErrRange, 0)
				wantFuelCode(t, b, 0, 9, v, fuel, api.ErrRange, 0)
				wantFuelCode(t, b, 1, 0, v, fuel, api.ErrRange, 0)
			}
			wantFuelCode(t, b, -1, 0, v, 5, api.ErrRange, 0)
			wantFuelCode(t, b, api.MaxPlugins, 9, v, 5, api.ErrRange, 0)
			wantFuelCode(t, b, 1, 0, v, 5, api.ErrNone, 0)
			wantFuelCode(t, b, 0, 1, v, 5, api.ErrNone, 0)
			wantFuelCode(t, b, 0, -1, v, 0, api.ErrNone, 0)
		}
	}
}

func TestPluginsFromTheFirstToTheLast(t *testing.T) {
	b := New()
	for p := range api.MaxPlugins {
		load(t, b, p, fmt.Sprintf("fun (pair (num %d) (seal (arg)))", p))
	}
	for p := range api.MaxPlugins {
		wantValue(t, b, p, 0, number(5), fmt.Sprintf("(%d [%d 5])", p, p), 4)
	}
}

// dear are functions, what each comes to with the argument 3, and in how many steps.
var dear = []struct {
	text, want string
	steps      int
}{
	{"fun (nil)", "nil", 1},
	{"fun (num 4)", "4", 1},
	{"fun (arg)", "3", 1},
	{"fun (bin add (arg) (num 1))", "4", 3},
	{"fun (let (num 5) (bin mul (var 0) (arg)))", "15", 5},
	{"fun (if (arg) (num 1) (bin add (num 1) (num 2)))", "1", 3},
	{"fun (if (nil) (num 1) (num 2))", "", 2},
	{"fun (if (num 0) (num 1) (bin add (num 1) (num 2)))", "3", 5},
	{"fun (pair (pair (num 1) (arg)) (seal (nil)))", "((1 3) [0 nil])", 6},
	{"fun (fst (snd (pair (num 1) (pair (num 2) (num 3)))))", "2", 7},
	{"fun (open (seal (arg)))", "3", 3},
	{"fun (call 1 (num 8)) fun (bin sub (arg) (num 1))", "7", 5},
	{"fun (bin add (call 1 (arg)) (call 1 (num 9))) fun (bin sub (arg) (num 1))", "10", 11},
	{"fun (if (bin less (arg) (num 6)) (call 0 (bin add (arg) (num 1))) (arg))", "6", 29},
	{"fun (let (keep (num 1)) (pair (var 0) (kept)))", "(nil 1)", 6},
}

// With just enough fuel a function comes to the same as with more, and with less it is as far as the fuel went.
func TestFuel(t *testing.T) {
	for _, x := range dear {
		for fuel := range x.steps + 3 {
			b := boxOf(t, x.text)
			switch {
			case fuel < x.steps:
				wantFuelCode(t, b, 0, 0, number(3), fuel, api.ErrFuel, fuel)
			case x.want == "":
				wantFuelCode(t, b, 0, 0, number(3), fuel, api.ErrKind, x.steps)
			default:
				wantFuel(t, b, 0, 0, number(3), fuel, x.want, x.steps)
			}
		}
		if x.want != "" {
			wantFuel(t, boxOf(t, x.text), 0, 0, number(3), api.MaxFuel, x.want, x.steps)
		}
	}
}

// ones tells an expression of n numbers 1 added up, which stand in pairs of sums: so it is not deep.
func ones(n int, one string) string {
	if n == 1 {
		return one
	}
	return "(bin add " + ones(n/2, one) + " " + ones(n-n/2, one) + ")"
}

func TestFuelAsMuchAsMayBe(t *testing.T) {
	// 49 numbers and 48 sums are 97 steps; 20 calls of that, with their arguments and sums, are 20 * 99 + 19; and a seal.
	dear := " fun " + ones(49, "(num 1)")
	b := boxOf(t, "fun (seal "+ones(20, "(call 1 (nil))")+")"+dear, "fun (open (seal "+ones(20, "(call 1 (nil))")+"))"+dear)
	wantValue(t, b, 0, 0, number(1), "[0 980]", api.MaxFuel)
	wantFuelCode(t, b, 0, 0, number(1), api.MaxFuel-1, api.ErrFuel, api.MaxFuel-1)
	wantCode(t, b, 1, 0, number(1), api.ErrFuel, api.MaxFuel)
	wantFuelCode(t, b, 0, 0, number(1), api.MaxFuel+1, api.ErrRange, 0)
}

// Each run has fuel of its own, but not each call.
func TestFuelIsOfARun(t *testing.T) {
	b := boxOf(t, "fun (bin add (call 1 (arg)) (call 1 (arg))) fun (bin add (arg) (num 1))")
	for range 3 {
		wantFuel(t, b, 0, 0, number(1), 11, "4", 11)
		wantFuelCode(t, b, 0, 0, number(1), 10, api.ErrFuel, 10)
		wantFuelCode(t, b, 0, 0, number(1), 0, api.ErrFuel, 0)
	}
}

// Fuel ends everything that there may be without end but for it.
func TestFuelEnds(t *testing.T) {
	b := boxOf(t, "fun (if (bin less (arg) (num 19)) (pair (call 0 (bin add (arg) (num 1))) (fst (pair (nil) (call 0 (bin add (arg) (num 1)))))) (nil))")
	wantCode(t, b, 0, 0, number(1), api.ErrFuel, api.MaxFuel)
	for fuel := range api.MaxFuel {
		wantFuelCode(t, b, 0, 0, number(1), fuel, api.ErrFuel, fuel)
	}
}
