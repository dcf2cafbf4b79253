package house

import (
	"fmt"
	"math"
	"slices"
	"testing"

	"letterlock/api"
)

func TestCallWithEachThing(t *testing.T) {
	for p := range api.MaxPlugins {
		other := (p + 1) % api.MaxPlugins
		h := New()
		prepare(t, h, load(p, module(t, "fun (arg) fun (seal (arg))")))
		prepare(t, h, grant(other, 0, 1, -1), grant(p, 1, 1, -1), link(other, 1, 1, 8, -1), link(p, 2, 2, 8, -1), grant(p, 3, 0, -1))
		for thing, text := range []string{"#1", "#3", "#4"} {
			want(t, h, call(p, 0, thing), text, 1)
			want(t, h, call(p, 1, thing), fmt.Sprintf("[%d %s]", p, text), 2)
			// N is of no account, where there is a thing.
			x := call(p, 0, thing)
			x.N = 77
			want(t, h, x, text, 1)
		}
		for _, thing := range []int{3, 4, 5, api.MaxNodes, 256, 1 << 32, 1<<32 + 1, math.MaxInt - 1, math.MaxInt} {
			wantRefused(t, h, call(p, 0, thing), api.ErrNone)
			wantRefused(t, h, call(p, 9, thing), api.ErrNone)
			x := call(p, 0, thing)
			x.N = 77
			wantRefused(t, h, x, api.ErrNone)
		}
	}
}

// Where nothing was given, there is no first thing.
func TestCallWithoutThings(t *testing.T) {
	h := houseOf(t, "fun (arg)", "fun (arg)")
	prepare(t, h, grant(1, 1, 1, -1))
	for _, thing := range []int{0, 1, math.MaxInt} {
		wantRefused(t, h, call(0, 0, thing), api.ErrNone)
	}
	want(t, h, value(0, 0, 0), "0", 1)
	prepare(t, h, grant(0, 1, 1, -1))
	want(t, h, call(0, 0, 0), "#1", 1)
	wantRefused(t, h, call(0, 0, 1), api.ErrNone)
}

func TestCallWithNumbers(t *testing.T) {
	h := houseOf(t, "fun (arg) fun (bin add (arg) (num 1))")
	for _, given := range []bool{false, true} {
		if given {
			prepare(t, h, grant(0, 1, 1, -1))
		}
		for _, n := range []int64{0, 1, -1, 255, 1 << 31, 1 << 32, -1 << 32, 1 << 53, math.MaxInt64 - 1, math.MaxInt64, math.MinInt64 + 1, math.MinInt64} {
			for _, thing := range []int{-1, -2, -256, -1 << 32, -1<<32 + 1, math.MinInt, math.MinInt + 1} {
				x := value(0, 0, n)
				x.H = thing
				want(t, h, x, fmt.Sprint(n), 1)
				x.K = 1
				want(t, h, x, fmt.Sprint(n+1), 3)
			}
		}
	}
}

func TestCallOfNoPlugin(t *testing.T) {
	text := "fun (keep (arg))"
	h := houseOf(t, text, text, text, text)
	for p := range api.MaxPlugins {
		prepare(t, h, grant(p, 1, 1, -1), grant(p, 1, 1, -1))
	}
	for _, p := range noPlugins {
		for _, f := range []int{0, 1, -1} {
			for _, thing := range []int{0, 1, 2, math.MaxInt} {
				wantRefused(t, h, call(p, f, thing), api.ErrNone)
			}
			for _, thing := range []int{-1, -2, math.MinInt} {
				x := value(p, f, 5)
				x.H = thing
				wantRefused(t, h, x, api.ErrRange)
			}
		}
	}
}

func TestCallOfWhatIsNotLoaded(t *testing.T) {
	h := houseOf(t, "", "fun (keep (arg)) fun (arg)")
	for p := range api.MaxPlugins {
		prepare(t, h, grant(p, 1, 15, -1))
	}
	for _, p := range []int{0, 2, 3} {
		for _, f := range []int{0, 1, 5, -1} {
			wantRefused(t, h, call(p, f, 0), api.ErrNone)
			wantRefused(t, h, call(p, f, 1), api.ErrNone)
			wantRefused(t, h, value(p, f, 5), api.ErrNone)
		}
	}
	for _, f := range append([]int{-1, 2, 3, api.MaxFuncs - 1, api.MaxFuncs}, far...) {
		wantRefused(t, h, call(1, f, 0), api.ErrNone)
		wantRefused(t, h, value(1, f, 5), api.ErrNone)
	}
}

func TestCallEachFunction(t *testing.T) {
	text := ""
	for f := range api.MaxFuncs {
		text += fmt.Sprintf("fun (pair (num %d) (arg)) ", f)
	}
	h := houseOf(t, "", "", "", text)
	prepare(t, h, grant(3, 1, 1, -1))
	for f := range api.MaxFuncs {
		want(t, h, call(3, f, 0), fmt.Sprintf("(%d #0)", f), 3)
		want(t, h, value(3, f, 9), fmt.Sprintf("(%d 9)", f), 3)
	}
}

// failing are functions that come to a code, in how many steps, called with the capability 0: of a cell, with the rights to read and to hand it on.
var failing = []struct {
	text        string
	code, steps int
}{
	{"(fst (arg))", api.ErrKind, 2},
	{"(bin add (num 1) (arg))", api.ErrKind, 3},
	{"(ask (narrow 8 (arg)) (nil))", api.ErrRight, 4},
	{"(write (arg) (num 1))", api.ErrRight, 3},
	{"(open (seal (open (arg))))", api.ErrKind, 4},
	{"(call 0 (arg))", api.ErrDeep, 2 * api.MaxFrames},
	{"(let (keep (num 0)) (let (pair (num 1) (num 2)) (let (pair (var 0) (var 0)) (let (pair (var 0) (var 0)) (let (pair (var 0) (var 0)) (pair (var 0) (var 0)))))))", api.ErrMany, 22},
	{"(if (bin less (num 0) (call 1 (nil))) (call 0 (arg)) (nil)) fun " + bins(40, "(num 1)"), api.ErrDeep, 19*86 + 5},
	{"(if (bin less (num 0) (call 1 (nil))) (call 0 (arg)) (nil)) fun " + bins(60, "(num 1)"), api.ErrFuel, api.MaxFuel},
}

func TestCallsThatComeToACode(t *testing.T) {
	for _, x := range failing {
		h := houseOf(t, "fun "+x.text)
		prepare(t, h, grant(0, 2, api.RRead|api.RPass, -1))
		for range 3 {
			wantCode(t, h, call(0, 0, 0), x.code, x.steps)
		}
		if n := h.World.Cells()[2]; n != 0 {
			t.Errorf("%s: the cell holds %d", x.text, n)
		}
		wantHand(t, h, 0, "#0")
	}
}

func TestCallsThatFindNoRoom(t *testing.T) {
	h := houseOf(t, "fun (narrow 1 (arg)) fun (wrap (arg))")
	prepare(t, h, grant(0, 1, 15, -1))
	fill(t, h, 1)
	want(t, h, call(0, 0, 0), fmt.Sprint("#", api.MaxNodes-1), 2)
	wantCode(t, h, call(0, 0, 0), api.ErrFull, 2)
	wantCode(t, h, call(0, 1, 0), api.ErrFull, 2)
}

// Asking tells a code of its own where there is no such function, and where another plugin's seal is met.
func TestCallsThatAskInVain(t *testing.T) {
	h := houseOf(t, "fun (ask (arg) (nil)) fun (open (ask (arg) (num 1)))", "", "fun (seal (arg))")
	prepare(t, h, link(0, 1, 0, 15, -1), link(0, 2, 0, 15, -1), link(0, 2, 1, 15, -1), link(0, 2, 0, 7, -1), grant(0, 1, 15, -1))
	wantCode(t, h, call(0, 0, 0), api.ErrNone, 3)
	want(t, h, call(0, 0, 1), "[2 nil]", 5)
	wantCode(t, h, call(0, 1, 1), api.ErrSeal, 6)
	wantCode(t, h, call(0, 0, 2), api.ErrNone, 3)
	wantCode(t, h, call(0, 0, 3), api.ErrRight, 3)
	wantCode(t, h, call(0, 0, 4), api.ErrKind, 3)
	// As soon as it is loaded, it is asked.
	prepare(t, h, load(1, module(t, "fun (pair (arg) (num 6))")))
	want(t, h, call(0, 0, 0), "(nil 6)", 6)
	prepare(t, h, load(1, module(t, "fun (num 8)")))
	want(t, h, call(0, 0, 0), "8", 4)
}

func TestFuelOfACall(t *testing.T) {
	// 49 numbers and 48 sums are 97 steps; 20 calls of that, with their arguments and sums, are 20 * 99 + 19; and a seal.
	dear := bins(20, "(call 1 (nil))") + ")"
	rest := " fun " + bins(49, "(num 1)")
	h := houseOf(t, "fun (seal "+dear+rest, "fun (open (seal "+dear+")"+rest)
	prepare(t, h, grant(0, 1, 1, -1), grant(1, 1, 1, -1))
	// Each call has as much as the first one.
	for range 3 {
		want(t, h, value(0, 0, 1), "[0 980]", api.MaxFuel)
		want(t, h, call(0, 0, 0), "[0 980]", api.MaxFuel)
		wantCode(t, h, value(1, 0, 1), api.ErrFuel, api.MaxFuel)
		wantCode(t, h, call(1, 0, 0), api.ErrFuel, api.MaxFuel)
	}
}

// What was done ahead of the end of the fuel stays done, and nothing is done behind it.
func TestWhatIsDoneAheadOfTheFuelsEnd(t *testing.T) {
	h := houseOf(t, "fun (let (write (arg) (num 1)) (let (keep (num 2)) (let (call 1 (nil)) (let (keep (num 9)) (write (arg) (num 9)))))) fun "+bins(40, "(call 2 (nil))")+" fun "+bins(49, "(num 1)"))
	prepare(t, h, grant(0, 3, 15, -1))
	wantCode(t, h, call(0, 0, 0), api.ErrFuel, api.MaxFuel)
	wantKept(t, h, 0, "2")
	wantLog(t, h, api.Entry{Cell: 3, Right: api.RWrite})
	if n := h.World.Cells()[3]; n != 1 {
		t.Errorf("the cell holds %d", n)
	}
}

func wantLog(t *testing.T, h *House, all ...api.Entry) {
	t.Helper()
	if got := h.World.Log(); !slices.Equal(got, all) {
		t.Errorf("the log is %v, want %v", got, all)
	}
}

// What a call did is there at the next one, also behind a code.
func TestCallsOneBehindTheOther(t *testing.T) {
	h := houseOf(t,
		"fun (let (keep (arg)) (fst (nil))) fun (keep (bin add (kept) (arg))) fun (write (arg) (num 5)) fun (let (write (arg) (num 6)) (fst (nil))) fun (read (arg)) fun (kept)",
		"fun (read (arg)) fun (kept) fun (let (wrap (arg)) (let (keep (var 0)) (let (cut (snd (var 1))) (fst (nil)))))")
	prepare(t, h, grant(0, 7, api.RRead|api.RWrite, -1), grant(1, 7, api.RRead, -1))
	wantCode(t, h, value(0, 0, 4), api.ErrKind, 5)
	wantKept(t, h, 0, "4")
	want(t, h, value(0, 1, 3), "4", 4)
	want(t, h, value(0, 1, -1), "7", 4)
	want(t, h, value(0, 5, 0), "6", 1)
	want(t, h, call(0, 2, 0), "5", 3)
	want(t, h, call(0, 4, 0), "5", 2)
	want(t, h, call(1, 0, 0), "5", 2)
	wantCode(t, h, call(0, 3, 0), api.ErrKind, 6)
	want(t, h, call(1, 0, 0), "6", 2)
	want(t, h, value(1, 1, 0), "nil", 1)
	wantCode(t, h, call(1, 2, 0), api.ErrKind, 12)
	want(t, h, value(1, 1, 0), "(#2 !0)", 1)
	if h.Open(0) || h.Rights(2) != 0 {
		t.Error("the gate was not cut")
	}
	want(t, h, newGate(), "1", 0)
	wantKept(t, h, 0, "6")
	wantLog(t, h, api.Entry{Plugin: 0, Cell: 7, Right: 2, Node: 0}, api.Entry{Plugin: 0, Cell: 7, Right: 1, Node: 0}, api.Entry{Plugin: 1, Cell: 7, Right: 1, Node: 1},
		api.Entry{Plugin: 0, Cell: 7, Right: 2, Node: 0}, api.Entry{Plugin: 1, Cell: 7, Right: 1, Node: 1})
}

// What a call comes to is told, and not given.
func TestCallsGiveNothing(t *testing.T) {
	h := houseOf(t, "fun (narrow 1 (arg)) fun (wrap (arg)) fun (ask (arg) (kept)) fun (keep (arg))", "fun (keep (arg))")
	prepare(t, h, grant(0, 1, 15, -1), link(0, 1, 0, 15, -1))
	want(t, h, call(0, 0, 0), "#2", 2)
	want(t, h, call(0, 1, 0), "(#3 !0)", 2)
	want(t, h, call(0, 3, 0), "nil", 2)
	want(t, h, call(0, 2, 1), "nil", 5)
	wantKept(t, h, 1, "#0")
	wantHand(t, h, 0, "#0 #1")
	wantHand(t, h, 1, "")
	wantRefused(t, h, call(1, 0, 0), api.ErrNone)
}

// asking keeps what it is given, and asks with that.
const asking = "fun (keep (arg)) fun (ask (arg) (kept)) fun (ask (arg) (num 3)) fun (read (kept))"

// A plugin asks another one through a gate, and hands it a capability; when the gate is cut both are dead.
func TestLinks(t *testing.T) {
	h := houseOf(t, asking, "fun (let (keep (arg)) (write (arg) (num 5))) fun (write (kept) (arg)) fun (seal (bin mul (arg) (num 2)))")
	want(t, h, newGate(), "0", 0)
	want(t, h, grant(0, 6, api.RAll, -1), "#0", 0)
	want(t, h, link(0, 1, 0, api.RAsk, 0), "#1", 0)
	want(t, h, link(0, 1, 2, api.RAsk, 0), "#2", 0)
	want(t, h, call(0, 0, 0), "nil", 2)
	want(t, h, call(0, 1, 1), "5", 9)
	wantNode(t, h, 4, api.Node{Parent: 0, Gate: 0, Rights: api.RAll, Plugin: -1})
	wantKept(t, h, 1, "#3")
	want(t, h, value(1, 1, 8), "8", 3)
	want(t, h, call(0, 2, 2), "[1 6]", 7)
	wantLog(t, h, api.Entry{Plugin: 1, Cell: 6, Right: 2, Node: 3}, api.Entry{Plugin: 1, Cell: 6, Right: 2, Node: 3})
	prepare(t, h, cut(0))
	wantCode(t, h, call(0, 1, 1), api.ErrRight, 3)
	wantCode(t, h, call(0, 2, 2), api.ErrRight, 3)
	wantCode(t, h, value(1, 1, 9), api.ErrRight, 3)
	// What did not come through the gate lives on.
	want(t, h, value(0, 3, 0), "8", 2)
	wantHand(t, h, 0, "#0 #1 #2")
	wantHand(t, h, 1, "")
	if len(h.Nodes()) != 4 || len(h.World.Log()) != 3 {
		t.Errorf("something was done behind the gate: %s", state(h))
	}
}

// What comes back goes through the gate, too.
func TestLinksAndWhatComesBack(t *testing.T) {
	h := houseOf(t, "fun (keep (ask (arg) (nil))) fun (read (kept))", "fun (keep (arg)) fun (kept)")
	prepare(t, h, newGate(), newGate(), grant(1, 6, api.RRead|api.RPass, 1), link(0, 1, 1, api.RAll, 0), call(1, 0, 0))
	want(t, h, call(0, 0, 0), "nil", 5)
	wantKept(t, h, 0, "#2")
	wantNode(t, h, 3, api.Node{Parent: 0, Gate: 0, Rights: api.RAll, Plugin: -1})
	want(t, h, value(0, 1, 0), "0", 2)
	wantLog(t, h, api.Entry{Plugin: 0, Cell: 6, Right: 1, Node: 2})
	prepare(t, h, cut(0))
	wantCode(t, h, value(0, 1, 0), api.ErrRight, 2)
	wantCode(t, h, call(0, 0, 0), api.ErrRight, 4)
	wantKept(t, h, 0, "#2")
	prepare(t, h, load(1, module(t, "fun (read (arg))")))
	want(t, h, call(1, 0, 0), "0", 2)
	prepare(t, h, cut(1))
	wantCode(t, h, call(1, 0, 0), api.ErrRight, 2)
}

// A gate is cut by one that asks, or by one that is asked: the house knows of it.
func TestLinksWhoseGateAPluginCuts(t *testing.T) {
	h := houseOf(t, "fun (ask (arg) (kept)) fun (keep (fst (wrap (arg)))) fun (let (wrap (arg)) (keep (var 0))) fun (let (cut (snd (kept))) (ask (fst (kept)) (nil)))", "fun (num 7)")
	prepare(t, h, link(0, 1, 0, 15, -1), call(0, 2, 0))
	wantKept(t, h, 0, "(#1 !0)")
	wantCode(t, h, value(0, 3, 0), api.ErrRight, 8)
	// The link itself goes through no gate.
	prepare(t, h, call(0, 1, 0))
	want(t, h, call(0, 0, 0), "7", 4)
}

// Plugins ask each other in turn, each by its own hand's things alone.
func TestLinksInARing(t *testing.T) {
	h := houseOf(t, asking, "fun (keep (arg)) fun (ask (kept) (seal (arg)))", "fun (keep (arg)) fun (ask (kept) (seal (arg)))", "fun (seal (arg))")
	prepare(t, h, link(2, 3, 0, 15, -1), link(1, 2, 1, 15, -1), link(0, 1, 1, 15, -1))
	for p := range 3 {
		prepare(t, h, call(p, 0, 0))
	}
	want(t, h, call(0, 2, 0), "[3 [2 [1 3]]]", 13)
	prepare(t, h, load(3, module(t, "fun (open (arg))")))
	wantCode(t, h, call(0, 2, 0), api.ErrSeal, 13)
}
