package vm

import (
	"fmt"
	"math"
	"testing"

	"letterlock/api"
	"letterlock/vals"
)

// both is a plugin whose functions read and write.
const both = "fun (read (arg)) fun (write (fst (arg)) (snd (arg)))"

func TestReadAndWrite(t *testing.T) {
	b := boxOf(t, "", "", both)
	for n := range api.MaxCells {
		cell(t, b, n, api.RAll, -1)
	}
	for n := range api.MaxCells {
		c, log := ability(n), len(b.World.Log())
		wantValue(t, b, 2, 0, c, "0", 2)
		wantValue(t, b, 2, 1, pair(c, number(int64(n)-5)), fmt.Sprint(n-5), 5)
		wantValue(t, b, 2, 0, c, fmt.Sprint(n-5), 2)
		wantLog(t, b, log, did(2, n, api.RRead, n), did(2, n, api.RWrite, n), did(2, n, api.RRead, n))
	}
	for n, got := range b.World.Cells() {
		if got != int64(n)-5 {
			t.Errorf("cell %d holds %d", n, got)
		}
	}
	for _, n := range extremes {
		wantValue(t, b, 2, 1, pair(ability(4), number(n)), fmt.Sprint(n), 5)
		wantValue(t, b, 2, 0, ability(4), fmt.Sprint(n), 2)
	}
}

// Of a capability all rights but one are of no use.
func TestEachSumOfRights(t *testing.T) {
	for r := range api.RAll + 1 {
		b := boxOf(t, both)
		all := []api.Val{cell(t, b, 7, r, -1), cell(t, b, 7, api.RAll, -1)}
		all = append(all, derived(t, b, all[1], r, -1), derived(t, b, all[0], api.RAll, -1))
		for _, c := range []api.Val{all[0], all[2], all[3]} {
			log, node := len(b.World.Log()), int(c.N)
			if r%2 == 1 {
				wantValue(t, b, 0, 0, c, fmt.Sprint(b.World.Cells()[7]), 2)
				wantLog(t, b, log, did(0, 7, api.RRead, node))
			} else {
				wantStill(t, b, func() { wantCode(t, b, 0, 0, c, api.ErrRight, 2) })
			}
			log = len(b.World.Log())
			if r/2%2 == 1 {
				wantValue(t, b, 0, 1, pair(c, number(c.N+40)), fmt.Sprint(c.N+40), 5)
				wantLog(t, b, log, did(0, 7, api.RWrite, node))
			} else {
				wantStill(t, b, func() { wantCode(t, b, 0, 1, pair(c, number(5)), api.ErrRight, 5) })
			}
		}
	}
}

// A function's capability is none of a cell; but that it has not the right is told ahead of that.
func TestReadAndWriteByFunctions(t *testing.T) {
	for r := range api.RAll + 1 {
		for p := range api.MaxPlugins {
			b := boxOf(t, both)
			first := function(t, b, p, 0, r, -1)
			for _, c := range []api.Val{first, derived(t, b, first, api.RAll, -1)} {
				toRead, toWrite := api.ErrRight, api.ErrRight
				if r%2 == 1 {
					toRead = api.ErrKind
				}
				if r/2%2 == 1 {
					toWrite = api.ErrKind
				}
				wantStill(t, b, func() {
					wantCode(t, b, 0, 0, c, toRead, 2)
					wantCode(t, b, 0, 1, pair(c, number(5)), toWrite, 5)
				})
			}
		}
	}
}

func TestReadAndWriteOfOtherKinds(t *testing.T) {
	b := boxOf(t, both)
	good, dead := cell(t, b, 0, api.RAll, -1), cell(t, b, 0, 0, -1)
	function(t, b, 0, 0, api.RAll, -1)
	gates(t, b, 1)
	wantStill(t, b, func() {
		for _, v := range others(api.VCap) {
			wantCode(t, b, 0, 0, v, api.ErrKind, 2)
			for _, n := range []api.Val{number(5), {}, pair(number(1), number(2)), good} {
				wantCode(t, b, 0, 1, pair(v, n), api.ErrKind, 5)
			}
		}
		for _, v := range others(api.VInt) {
			// That the second one is no int is known ahead of what the first one is good for.
			for _, c := range []api.Val{good, dead, ability(2), ability(99)} {
				wantCode(t, b, 0, 1, pair(c, v), api.ErrKind, 5)
			}
		}
	})
	wantValue(t, b, 0, 1, pair(good, number(5)), "5", 5)
}

func TestReadAndWriteByWhatIsNotThere(t *testing.T) {
	b := boxOf(t, both)
	cell(t, b, 3, api.RAll, -1)
	wantStill(t, b, func() {
		for _, n := range append([]int{1, 2, api.MaxNodes, api.MaxNodes + 1}, far...) {
			if n >= 0 {
				wantCode(t, b, 0, 0, ability(n), api.ErrRight, 2)
				wantCode(t, b, 0, 1, pair(ability(n), number(5)), api.ErrRight, 5)
			}
		}
	})
}

// Through gates that are open a capability does what it does, and through one that was cut nothing.
func TestReadAndWriteThroughGates(t *testing.T) {
	b := boxOf(t, both)
	gates(t, b, 3)
	first := cell(t, b, 3, api.RAll, 0)
	second := derived(t, b, first, api.RRead|api.RWrite, 1)
	third := derived(t, b, second, api.RAll, -1)
	other := derived(t, b, first, api.RAll, 2)
	for _, c := range []api.Val{first, second, third, other} {
		log := len(b.World.Log())
		wantValue(t, b, 0, 1, pair(c, number(5+c.N)), fmt.Sprint(5+c.N), 5)
		wantValue(t, b, 0, 0, c, fmt.Sprint(5+c.N), 2)
		wantLog(t, b, log, did(0, 3, api.RWrite, int(c.N)), did(0, 3, api.RRead, int(c.N)))
	}
	cutOff := func(all ...api.Val) {
		t.Helper()
		wantStill(t, b, func() {
			for _, c := range all {
				wantCode(t, b, 0, 0, c, api.ErrRight, 2)
				wantCode(t, b, 0, 1, pair(c, number(1)), api.ErrRight, 5)
			}
		})
	}
	b.Cut(1)
	cutOff(second, third)
	wantValue(t, b, 0, 0, first, "8", 2)
	wantValue(t, b, 0, 0, other, "8", 2)
	b.Cut(0)
	cutOff(first, second, third, other)
}

// The log tells what was done, in that order, and nothing of what was not done.
func TestLog(t *testing.T) {
	b := boxOf(t, "fun (let (arg) (bin add (write (fst (var 0)) (read (snd (var 0)))) (bin mul (read (fst (var 0))) (write (snd (var 0)) (num 7)))))",
		"fun (pair (write (arg) (num 1)) (pair (read (arg)) (fst (write (arg) (num 2)))))", "fun (if (read (arg)) (write (arg) (num 0)) (write (arg) (num 1)))")
	one, two := cell(t, b, 8, api.RAll, -1), cell(t, b, 2, api.RAll, -1)
	wantValue(t, b, 0, 0, pair(one, two), "0", 17)
	wantLog(t, b, 0, did(0, 2, api.RRead, 1), did(0, 8, api.RWrite, 0), did(0, 8, api.RRead, 0), did(0, 2, api.RWrite, 1))
	wantCode(t, b, 1, 0, two, api.ErrKind, 11)
	wantLog(t, b, 4, did(1, 2, api.RWrite, 1), did(1, 2, api.RRead, 1), did(1, 2, api.RWrite, 1))
	wantFuelCode(t, b, 1, 0, one, 6, api.ErrFuel, 6)
	wantLog(t, b, 7, did(1, 8, api.RWrite, 0))
	wantFuelCode(t, b, 1, 0, one, 3, api.ErrFuel, 3)
	wantLog(t, b, 8)
	wantValue(t, b, 2, 0, one, "0", 6)
	wantValue(t, b, 2, 0, one, "1", 6)
	wantLog(t, b, 8, did(2, 8, api.RRead, 0), did(2, 8, api.RWrite, 0), did(2, 8, api.RRead, 0), did(2, 8, api.RWrite, 0))
}

func TestNarrow(t *testing.T) {
	for k := range api.RAll + 1 {
		for r := range api.RAll + 1 {
			b := boxOf(t, fmt.Sprintf("fun (narrow %d (arg))", k))
			gates(t, b, 1)
			cell(t, b, 3, r, -1)
			function(t, b, 0, 0, r, 0)
			wantValue(t, b, 0, 0, ability(0), "#2", 2)
			wantValue(t, b, 0, 0, ability(1), "#3", 2)
			wantValue(t, b, 0, 0, ability(3), "#4", 2)
			wantNodes(t, b, 2, from(0, k, -1), from(1, k, -1), from(3, k, -1))
			for n := 2; n < 5; n++ {
				if b.Rights(n) != k&r {
					t.Errorf("%d has the rights %d, want %d of %d", n, b.Rights(n), k, r)
				}
			}
			if b.Has(1) {
				t.Error("there is a gate more")
			}
		}
	}
}

// What is narrowed is of the same cell, and what it came from has the rights that it had.
func TestNarrowAndUse(t *testing.T) {
	b := boxOf(t, "fun (read (narrow 1 (arg))) fun (write (narrow 1 (arg)) (num 5)) fun (pair (write (arg) (num 6)) (read (narrow 3 (narrow 5 (arg)))))")
	cell(t, b, 9, api.RAll, -1)
	wantValue(t, b, 0, 0, ability(0), "0", 3)
	wantCode(t, b, 0, 1, ability(0), api.ErrRight, 4)
	wantValue(t, b, 0, 2, ability(0), "(6 6)", 8)
	wantLog(t, b, 0, did(0, 9, api.RRead, 1), did(0, 9, api.RWrite, 0), did(0, 9, api.RRead, 4))
	wantNodes(t, b, 1, from(0, 1, -1), from(0, 1, -1), from(0, 5, -1), from(3, 3, -1))
}

// What has no rights, or goes through a gate that was cut, may be narrowed, too: what comes of it has none.
func TestNarrowOfTheDead(t *testing.T) {
	b := boxOf(t, "fun (narrow 15 (arg))")
	gates(t, b, 1)
	cell(t, b, 9, api.RAll, 0)
	cell(t, b, 9, 0, -1)
	b.Cut(0)
	wantValue(t, b, 0, 0, ability(0), "#2", 2)
	wantValue(t, b, 0, 0, ability(1), "#3", 2)
	wantNodes(t, b, 2, from(0, 15, -1), from(1, 15, -1))
	if b.Rights(2)|b.Rights(3) != 0 {
		t.Error("rights came of nothing")
	}
}

func TestNarrowOfOthers(t *testing.T) {
	b := boxOf(t, "fun (narrow 5 (arg))")
	cell(t, b, 9, api.RAll, -1)
	wantStill(t, b, func() {
		for _, v := range others(api.VCap) {
			wantCode(t, b, 0, 0, v, api.ErrKind, 2)
		}
		for _, n := range append([]int{1, api.MaxNodes}, far[6:]...) {
			wantCode(t, b, 0, 0, ability(n), api.ErrNone, 2)
		}
	})
	// That there is none such is told ahead of that the graph is full.
	room(b, 1)
	wantValue(t, b, 0, 0, ability(0), fmt.Sprint("#", api.MaxNodes-1), 2)
	wantStill(t, b, func() {
		wantCode(t, b, 0, 0, ability(0), api.ErrFull, 2)
		wantCode(t, b, 0, 0, ability(api.MaxNodes-1), api.ErrFull, 2)
		wantCode(t, b, 0, 0, ability(api.MaxNodes), api.ErrNone, 2)
		wantCode(t, b, 0, 0, number(0), api.ErrKind, 2)
	})
}

// What was made ahead of a code is there.
func TestNarrowInAGraphThatGetsFull(t *testing.T) {
	for more := range 4 {
		b := boxOf(t, "fun (pair (narrow 1 (arg)) (pair (narrow 2 (arg)) (narrow 3 (arg))))")
		cell(t, b, 9, api.RAll, -1)
		room(b, more)
		n := api.MaxNodes - more
		all := []api.Node{from(0, 1, -1), from(0, 2, -1), from(0, 3, -1)}
		if more < 3 {
			wantCode(t, b, 0, 0, ability(0), api.ErrFull, []int{3, 6, 8}[more])
		} else {
			wantValue(t, b, 0, 0, ability(0), fmt.Sprintf("(#%d (#%d #%d))", n, n+1, n+2), 8)
		}
		wantNodes(t, b, n, all[:more]...)
	}
}

func TestWrap(t *testing.T) {
	b := boxOf(t, "fun (wrap (arg))")
	gates(t, b, 2)
	cell(t, b, 9, api.RRead, -1)
	function(t, b, 1, 1, api.RAsk, 1)
	wantValue(t, b, 0, 0, ability(0), "(#2 !2)", 2)
	wantValue(t, b, 0, 0, ability(1), "(#3 !3)", 2)
	wantValue(t, b, 0, 0, ability(2), "(#4 !4)", 2)
	wantNodes(t, b, 2, from(0, api.RAll, 2), from(1, api.RAll, 3), from(2, api.RAll, 4))
	for n, want := range []int{api.RRead, api.RAsk, api.RRead, api.RAsk, api.RRead} {
		if b.Rights(n) != want {
			t.Errorf("%d has the rights %d, want %d", n, b.Rights(n), want)
		}
	}
	for k := range 5 {
		if !b.Open(k) {
			t.Errorf("the gate %d is not open", k)
		}
	}
	if b.Has(5) {
		t.Error("there is a gate more")
	}
	// What goes through a gate that was cut may be wrapped, too.
	b.Cut(2)
	wantValue(t, b, 0, 0, ability(4), "(#5 !5)", 2)
	if b.Rights(5) != 0 || !b.Open(5) {
		t.Errorf("it has the rights %d", b.Rights(5))
	}
}

// What is wrapped does what it did, until its gate is cut; what it came from does that still.
func TestWrapAndCut(t *testing.T) {
	b := boxOf(t, "fun (let (wrap (arg)) (let (write (fst (var 0)) (num 5)) (let (cut (snd (var 1))) (pair (var 0) (pair (var 1) (var 2))))))",
		"fun (read (arg)) fun (cut (arg))", "fun (let (wrap (arg)) (let (cut (snd (var 0))) (read (fst (var 1)))))")
	cell(t, b, 6, api.RAll, -1)
	wantValue(t, b, 0, 0, ability(0), "(nil (5 (#1 !0)))", 17)
	wantLog(t, b, 0, did(0, 6, api.RWrite, 1))
	wantCode(t, b, 1, 0, ability(1), api.ErrRight, 2)
	wantValue(t, b, 1, 0, ability(0), "5", 2)
	wantCode(t, b, 2, 0, ability(0), api.ErrRight, 10)
	if b.Open(0) || b.Open(1) || !b.Has(1) || b.Has(2) {
		t.Error(state(b))
	}
}

func TestWrapOfOthers(t *testing.T) {
	b := boxOf(t, "fun (wrap (arg))")
	cell(t, b, 9, api.RAll, -1)
	wantStill(t, b, func() {
		for _, v := range others(api.VCap) {
			wantCode(t, b, 0, 0, v, api.ErrKind, 2)
		}
	})
	// The gate is made ahead of what is found out about the capability.
	for k, n := range append([]int{1, 2, api.MaxNodes}, far[6:]...) {
		wantCode(t, b, 0, 0, ability(n), api.ErrNone, 2)
		if !b.Open(k) || b.Has(k+1) || len(b.Nodes()) != 1 {
			t.Errorf("with %d: %s", n, state(b))
		}
	}
}

func TestWrapWithoutRoom(t *testing.T) {
	for _, x := range []struct{ nodes, gates, node, code int }{
		{1, 1, 0, 0}, {0, 1, 0, api.ErrFull}, {1, 0, 0, api.ErrFull}, {0, 0, 0, api.ErrFull},
		{0, 1, 99, api.ErrNone}, {1, 0, 99, api.ErrFull}, {0, 0, 99, api.ErrFull}, {1, 1, 99, api.ErrNone},
	} {
		b := boxOf(t, "fun (wrap (arg))")
		cell(t, b, 9, api.RAll, -1)
		room(b, x.nodes)
		gateRoom(b, x.gates)
		nodes, k := len(b.Nodes()), api.MaxGates-x.gates
		if x.code == 0 {
			wantValue(t, b, 0, 0, ability(x.node), fmt.Sprintf("(#%d !%d)", nodes, k), 2)
			wantNodes(t, b, nodes, from(0, api.RAll, k))
		} else {
			wantCode(t, b, 0, 0, ability(x.node), x.code, 2)
			wantNodes(t, b, nodes)
		}
		if !b.Has(api.MaxGates-1) || b.Has(api.MaxGates) {
			t.Errorf("%v: the gate was not made", x)
		}
		// Now no gate can be made, and so nothing is done.
		wantStill(t, b, func() {
			wantCode(t, b, 0, 0, ability(0), api.ErrFull, 2)
			wantCode(t, b, 0, 0, number(0), api.ErrKind, 2)
		})
	}
}

// As many gates as there may be are made, and then none more.
func TestWrapAgainAndAgain(t *testing.T) {
	b := boxOf(t, "fun (fst (wrap (arg)))")
	cell(t, b, 9, api.RAll, -1)
	for n := range api.MaxGates {
		wantValue(t, b, 0, 0, ability(n), fmt.Sprint("#", n+1), 3)
	}
	if len(b.Gates(api.MaxGates)) != api.MaxGates || b.Rights(api.MaxGates) != api.RAll {
		t.Errorf("it goes through %v", b.Gates(api.MaxGates))
	}
	wantStill(t, b, func() { wantCode(t, b, 0, 0, ability(0), api.ErrFull, 3) })
}

func TestCut(t *testing.T) {
	b := boxOf(t, "fun (cut (arg))")
	gates(t, b, 3)
	wantValue(t, b, 0, 0, gate(1), "nil", 2)
	for k, want := range []bool{true, false, true} {
		if b.Open(k) != want {
			t.Errorf("the gate %d: %v", k, b.Open(k))
		}
	}
	// One that was cut, or that is not there, may be cut: then nothing is done.
	wantStill(t, b, func() {
		for _, k := range append([]int{1, 3, api.MaxGates}, far[6:]...) {
			wantValue(t, b, 0, 0, gate(k), "nil", 2)
		}
		for _, v := range others(api.VGate) {
			wantCode(t, b, 0, 0, v, api.ErrKind, 2)
		}
	})
	if !b.Open(0) || !b.Open(2) {
		t.Error("other gates were cut")
	}
}

// To cut needs no room.
func TestCutInAFullGraph(t *testing.T) {
	b := boxOf(t, "fun (cut (arg)) fun (read (arg))")
	gateRoom(b, 0)
	c := cell(t, b, 2, api.RAll, api.MaxGates-1)
	room(b, 0)
	wantValue(t, b, 0, 1, c, "0", 2)
	wantValue(t, b, 0, 0, gate(api.MaxGates-1), "nil", 2)
	wantCode(t, b, 0, 1, c, api.ErrRight, 2)
	for k := range api.MaxGates - 1 {
		if !b.Open(k) {
			t.Errorf("the gate %d was cut", k)
		}
	}
}

// What was cut ahead of a code is cut.
func TestCutAheadOfACode(t *testing.T) {
	b := boxOf(t, "fun (pair (cut (fst (arg))) (read (snd (arg))))")
	gates(t, b, 1)
	c := cell(t, b, 5, api.RAll, 0)
	wantCode(t, b, 0, 0, pair(gate(0), c), api.ErrRight, 7)
	if b.Open(0) {
		t.Error("the gate is open")
	}
	wantLog(t, b, 0)
}

func TestSealedCapabilities(t *testing.T) {
	b := boxOf(t, "fun (seal (arg)) fun (read (open (arg))) fun (read (arg))", "fun (read (open (arg))) fun (read (arg))")
	cell(t, b, 1, api.RRead, -1)
	sealed := seal(0, ability(0))
	wantValue(t, b, 0, 0, ability(0), vals.Text(sealed), 2)
	wantValue(t, b, 0, 1, sealed, "0", 3)
	wantStill(t, b, func() {
		wantCode(t, b, 0, 2, sealed, api.ErrKind, 2)
		wantCode(t, b, 1, 0, sealed, api.ErrSeal, 3)
		wantCode(t, b, 1, 1, sealed, api.ErrKind, 2)
	})
}

func TestLaterRunsHangOnEarlierOnes(t *testing.T) {
	b := boxOf(t, "fun (keep (wrap (arg))) fun (read (fst (kept))) fun (cut (snd (kept))) fun (write (fst (kept)) (bin add (read (fst (kept))) (arg)))")
	cell(t, b, 4, api.RAll, -1)
	wantCode(t, b, 0, 1, number(1), api.ErrKind, 3)
	wantValue(t, b, 0, 0, ability(0), "nil", 3)
	wantValue(t, b, 0, 3, number(5), "5", 8)
	wantValue(t, b, 0, 3, number(7), "12", 8)
	wantValue(t, b, 0, 1, number(1), "12", 3)
	wantValue(t, b, 0, 2, number(1), "nil", 3)
	wantCode(t, b, 0, 1, number(1), api.ErrRight, 3)
	wantCode(t, b, 0, 3, number(math.MaxInt64), api.ErrRight, 7)
	wantLog(t, b, 0, did(0, 4, api.RRead, 1), did(0, 4, api.RWrite, 1), did(0, 4, api.RRead, 1), did(0, 4, api.RWrite, 1), did(0, 4, api.RRead, 1))
}
