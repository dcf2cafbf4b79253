package vm

import (
	"fmt"
	"slices"
	"testing"

	"letterlock/api"
	"letterlock/vals"
)

func TestCall(t *testing.T) {
	b := boxOf(t, "fun (call 2 (arg)) fun (call 0 (pair (arg) (num 1))) fun (seal (fst (arg))) fun (pair (call 2 (arg)) (call 0 (arg))) fun (keep (arg)) fun (pair (call 4 (num 1)) (kept))",
		"fun (nil) fun (nil) fun (nil)")
	v := pair(number(5), number(6))
	wantValue(t, b, 0, 0, v, "[0 5]", 5)
	wantValue(t, b, 0, 1, v, "[0 (5 6)]", 9)
	wantValue(t, b, 0, 2, v, "[0 5]", 3)
	wantValue(t, b, 0, 3, v, "([0 5] [0 5])", 13)
	wantValue(t, b, 0, 4, number(8), "nil", 2)
	wantValue(t, b, 0, 5, v, "(8 1)", 6)
	wantCode(t, b, 0, 0, number(5), api.ErrKind, 5)
}

// Each function has an argument of its own, and after a call that of the one around it is what it was.
func TestCallsAndArguments(t *testing.T) {
	b := boxOf(t, "fun (pair (arg) (pair (call 1 (num 2)) (arg))) fun (pair (arg) (pair (call 2 (num 3)) (arg))) fun (arg)")
	wantValue(t, b, 0, 0, number(1), "(1 ((2 (3 2)) 1))", 13)
}

// down calls itself as often as its argument says.
const down = "fun (if (arg) (call 0 (bin sub (arg) (num 1))) (num 7))"

func TestCallsAsDeepAsMayBe(t *testing.T) {
	b := boxOf(t, down)
	for n := range int64(api.MaxFrames) {
		wantValue(t, b, 0, 0, number(n), "7", int(n)*6+3)
	}
	for _, n := range []int64{api.MaxFrames, api.MaxFrames + 1, 1000, -1} {
		wantCode(t, b, 0, 0, number(n), api.ErrDeep, api.MaxFrames*6)
	}
}

// A call that is over is open no longer.
func TestCallsOneBehindTheOther(t *testing.T) {
	b := boxOf(t, "fun (if (bin less (arg) (num 18)) (call 0 (bin add (arg) (num 1))) "+ones(30, "(call 1 (nil))")+") fun (num 1)")
	wantValue(t, b, 0, 0, number(0), "30", 18*8+4+29+60+30)
	wantCode(t, b, 0, 0, number(-1), api.ErrDeep, 19*8+4+4+2)
}

// The code of a call without room comes when its argument is there, and ahead of the step of what would be called.
func TestDeepAndOtherCodes(t *testing.T) {
	text := "fun (if (arg) (call 0 (bin sub (arg) (num 1))) (call 1 (open (nil)))) fun (num 1)"
	wantCode(t, boxOf(t, text), 0, 0, number(api.MaxFrames-1), api.ErrKind, 19*6+5)
	b := boxOf(t, down)
	wantFuelCode(t, b, 0, 0, number(50), api.MaxFrames*6, api.ErrDeep, api.MaxFrames*6)
	wantFuelCode(t, b, 0, 0, number(50), api.MaxFrames*6-1, api.ErrFuel, api.MaxFrames*6-1)
	wantFuelCode(t, b, 0, 0, number(19), 19*6, api.ErrFuel, 19*6)
}

// A run after one that was too deep has all room again.
func TestDepthIsOfARun(t *testing.T) {
	b := boxOf(t, down)
	for range 3 {
		wantCode(t, b, 0, 0, number(20), api.ErrDeep, 120)
		wantFuelCode(t, b, 0, 0, number(19), 100, api.ErrFuel, 100)
		wantValue(t, b, 0, 0, number(19), "7", 117)
	}
}

// asker asks by the left one of its argument, and hands on the right one.
const asker = "fun (ask (fst (arg)) (snd (arg)))"

func TestAskThroughNoGate(t *testing.T) {
	b := boxOf(t, asker, "fun (num 1) fun (pair (arg) (seal (arg))) fun (fst (arg)) fun (call 1 (arg))")
	for f := range 4 {
		function(t, b, 1, f, api.RAll, -1)
	}
	c := cell(t, b, 5, api.RPass, -1)
	wantStill(t, b, func() {
		wantValue(t, b, 0, 0, pair(ability(0), number(5)), "1", 6)
		wantValue(t, b, 0, 0, pair(ability(1), number(5)), "(5 [1 5])", 9)
		wantCode(t, b, 0, 0, pair(ability(2), number(5)), api.ErrKind, 7)
		wantValue(t, b, 0, 0, pair(ability(3), c), "(#4 [1 #4])", 11)
		wantValue(t, b, 0, 0, pair(ability(2), pair(ability(1), api.Val{})), "#1", 7)
	})
	for fuel := range 9 {
		wantFuelCode(t, b, 0, 0, pair(ability(1), number(5)), fuel, api.ErrFuel, fuel)
	}
	wantFuel(t, b, 0, 0, pair(ability(1), number(5)), 9, "(5 [1 5])", 9)
}

// A plugin may ask itself; then what it hands on goes through the gates, too.
func TestAskOneself(t *testing.T) {
	b := boxOf(t, "fun (ask (fst (arg)) (snd (arg))) fun (keep (open (arg)))")
	gates(t, b, 1)
	function(t, b, 0, 1, api.RAsk, 0)
	c := cell(t, b, 5, api.RAll, -1)
	wantValue(t, b, 0, 0, pair(ability(0), seal(0, c)), "nil", 8)
	if got := vals.Text(b.Plugins[0].Kept); got != "#2" {
		t.Errorf("it keeps %s", got)
	}
	wantNodes(t, b, 2, from(1, api.RAll, 0))
}

func TestAskThroughOneGate(t *testing.T) {
	b := boxOf(t, asker, "", "", "fun (pair (arg) (num 1))")
	gates(t, b, 2)
	function(t, b, 3, 0, api.RAll, 1)
	cell(t, b, 5, api.RAll, -1)
	wantValue(t, b, 0, 0, pair(ability(0), number(5)), "(5 1)", 8)
	wantNodes(t, b, 2)
	// It goes through the gate there, and again on its way back.
	wantValue(t, b, 0, 0, pair(ability(0), ability(1)), "(#3 1)", 8)
	wantNodes(t, b, 2, from(1, api.RAll, 1), from(2, api.RAll, 1))
	wantValue(t, b, 0, 0, pair(ability(0), pair(ability(1), seal(0, ability(0)))), "((#6 [0 #7]) 1)", 8)
	wantNodes(t, b, 4, from(1, api.RAll, 1), from(0, api.RAll, 1), from(4, api.RAll, 1), from(5, api.RAll, 1))
	b.Cut(1)
	for n := 2; n < 8; n++ {
		if b.Rights(n) != 0 {
			t.Errorf("%d has rights behind a gate that was cut", n)
		}
	}
	if b.Rights(1) != api.RAll {
		t.Error("what was handed on has no rights any more")
	}
	wantStill(t, b, func() { wantCode(t, b, 0, 0, pair(ability(0), number(5)), api.ErrRight, 5) })
}

func TestAskThroughSeveralGates(t *testing.T) {
	b := boxOf(t, asker, "fun (pair (arg) (seal (arg)))")
	gates(t, b, 3)
	first := function(t, b, 1, 0, api.RAll, 2)
	second := derived(t, b, first, api.RAsk, -1)
	third := derived(t, b, second, api.RAll, 0)
	c := cell(t, b, 5, api.RRead|api.RPass, 1)
	wantValue(t, b, 0, 0, pair(third, c), "(#7 [1 #9])", 9)
	wantNodes(t, b, 4, from(3, 15, 0), from(4, 15, 2), from(5, 15, 0), from(6, 15, 2), from(5, 15, 0), from(8, 15, 2))
	if got := b.Gates(9); !slices.Equal(got, []int{2, 0, 2, 0, 1}) {
		t.Errorf("it goes through %v", got)
	}
	if b.Rights(9) != api.RRead|api.RPass {
		t.Errorf("it has the rights %d", b.Rights(9))
	}
}

// The same gate may be on a capability's way twice: then things go through it twice.
func TestAskThroughOneGateTwice(t *testing.T) {
	b := boxOf(t, asker, "fun (num 1)")
	gates(t, b, 1)
	first := function(t, b, 1, 0, api.RAll, 0)
	second := derived(t, b, first, api.RAll, 0)
	wantValue(t, b, 0, 0, pair(second, first), "1", 6)
	wantNodes(t, b, 2, from(0, 15, 0), from(2, 15, 0))
}

func TestAskNeedsTheRight(t *testing.T) {
	for r := range api.RAll + 1 {
		b := boxOf(t, asker, "fun (num 1)")
		all := []api.Val{function(t, b, 1, 0, r, -1), function(t, b, 1, 0, api.RAll, -1)}
		all = append(all, derived(t, b, all[1], r, -1), derived(t, b, all[0], api.RAll, -1))
		of := cell(t, b, 1, r, -1)
		for _, c := range []api.Val{all[0], all[2], all[3]} {
			wantStill(t, b, func() {
				if r >= api.RAsk {
					wantValue(t, b, 0, 0, pair(c, number(5)), "1", 6)
				} else {
					wantCode(t, b, 0, 0, pair(c, number(5)), api.ErrRight, 5)
				}
			})
		}
		// A cell's capability is none of a function; but that it has not the right is told ahead of that.
		want := api.ErrRight
		if r >= api.RAsk {
			want = api.ErrKind
		}
		wantCode(t, b, 0, 0, pair(of, number(5)), want, 5)
		wantCode(t, b, 0, 0, pair(of, gate(0)), want, 5)
	}
}

func TestAskByOtherKinds(t *testing.T) {
	b := boxOf(t, asker, "fun (num 1)")
	function(t, b, 1, 0, api.RAll, -1)
	wantStill(t, b, func() {
		for _, v := range others(api.VCap) {
			wantCode(t, b, 0, 0, pair(v, number(5)), api.ErrKind, 5)
			wantCode(t, b, 0, 0, pair(v, gate(5)), api.ErrKind, 5)
		}
		for _, n := range append([]int{1, api.MaxNodes}, far[6:]...) {
			wantCode(t, b, 0, 0, pair(ability(n), number(5)), api.ErrRight, 5)
		}
	})
}

func TestAskOfWhatIsNotThere(t *testing.T) {
	b := boxOf(t, asker, "fun (num 1) fun (num 2)", "")
	// One that is not there has no functions, even if it has code.
	b.Plugins[2].Code = b.Plugins[1].Code
	gates(t, b, 1)
	cell(t, b, 0, api.RAll, -1)
	for p := range api.MaxPlugins {
		for f := range api.MaxFuncs {
			c := function(t, b, p, f, api.RAsk, 0)
			if p == 1 && f < 2 {
				wantValue(t, b, 0, 0, pair(c, number(5)), fmt.Sprint(f+1), 6)
			} else if p > 0 || f > 0 {
				wantStill(t, b, func() {
					for _, v := range []api.Val{number(5), ability(0), gate(0), ability(99)} {
						wantCode(t, b, 0, 0, pair(c, v), api.ErrNone, 5)
					}
				})
			}
		}
	}
	dead := function(t, b, 3, 0, api.RAll&^api.RAsk, 0)
	wantCode(t, b, 0, 0, pair(dead, number(5)), api.ErrRight, 5)
}

// What is not handed on is not asked: nothing is done then.
func TestAskWithWhatMayNotBeHandedOn(t *testing.T) {
	for _, k := range []int{-1, 0} {
		b := boxOf(t, asker, "fun (keep (arg))")
		gates(t, b, 2)
		c := function(t, b, 1, 0, api.RAll, k)
		good, bad := cell(t, b, 1, api.RPass, -1), cell(t, b, 1, api.RAll&^api.RPass, -1)
		cut := cell(t, b, 1, api.RAll, 1)
		b.Cut(1)
		wantStill(t, b, func() {
			for _, v := range []api.Val{bad, cut, gate(0), gate(1), gate(99), ability(99), pair(good, bad), pair(good, seal(0, gate(0))), seal(1, bad), pair(cut, good)} {
				wantCode(t, b, 0, 0, pair(c, v), api.ErrRight, 5)
			}
		})
		wantValue(t, b, 0, 0, pair(c, good), "nil", 7)
	}
}

// What may not be handed on does not come back; what was done stays done.
func TestAnswersThatMayNotBeHandedOn(t *testing.T) {
	for _, x := range []struct {
		text, want string
		steps      int
		more       []api.Node // behind those that are there when the function is called
	}{
		{"(narrow 11 (arg))", "", 2, []api.Node{from(2, 11, -1)}},
		{"(pair (num 1) (seal (narrow 3 (arg))))", "", 5, []api.Node{from(2, 3, -1)}},
		{"(snd (wrap (arg)))", "", 3, []api.Node{from(2, 15, 1)}},
		{"(seal (wrap (arg)))", "", 3, []api.Node{from(2, 15, 1)}},
		{"(kept)", "", 1, nil},
		{"(narrow 4 (arg))", "#4", 2, []api.Node{from(2, 4, -1), from(3, 15, 0)}},
		{"(fst (wrap (arg)))", "#4", 3, []api.Node{from(2, 15, 1), from(3, 15, 0)}},
		{"(let (keep (num 1)) (arg))", "#3", 4, []api.Node{from(2, 15, 0)}},
	} {
		b := boxOf(t, asker, "fun "+x.text)
		gates(t, b, 1)
		to, c := function(t, b, 1, 0, api.RAsk, 0), cell(t, b, 1, api.RAll, -1)
		b.Plugins[1].Kept = ability(99)
		if x.want == "" {
			wantCode(t, b, 0, 0, pair(to, c), api.ErrRight, 5+x.steps)
		} else {
			wantValue(t, b, 0, 0, pair(to, c), x.want, 5+x.steps)
		}
		wantNodes(t, b, 2, append([]api.Node{from(1, 15, 0)}, x.more...)...)
	}
}

// Without gates, too, what may not be handed on does not come back.
func TestAnswersWithoutGates(t *testing.T) {
	b := boxOf(t, asker, "fun (let (keep (arg)) (narrow 11 (arg))) fun (snd (wrap (arg))) fun (narrow 4 (arg))")
	c := cell(t, b, 1, api.RAll, -1)
	for f := range 3 {
		function(t, b, 1, f, api.RAsk, -1)
	}
	wantCode(t, b, 0, 0, pair(ability(1), c), api.ErrRight, 10)
	wantCode(t, b, 0, 0, pair(ability(2), c), api.ErrRight, 8)
	wantValue(t, b, 0, 0, pair(ability(3), c), "#6", 7)
	wantNodes(t, b, 4, from(0, 11, -1), from(0, 15, 0), from(0, 4, -1))
	if got := vals.Text(b.Plugins[1].Kept); got != "#0" {
		t.Errorf("it keeps %s", got)
	}
}

// The graph is full at every place on the way there and back, and just not.
func TestAskWhenTheGraphIsFull(t *testing.T) {
	for more := range 5 {
		b := boxOf(t, asker, "fun (let (keep (num 3)) (arg))")
		gates(t, b, 2)
		c := derived(t, b, function(t, b, 1, 0, api.RAll, 0), api.RAll, 1)
		room(b, more)
		n := api.MaxNodes - more
		all := []api.Node{from(0, 15, 1), from(n, 15, 0), from(n+1, 15, 1), from(n+2, 15, 0)}
		kept := "3"
		switch {
		case more < 2:
			kept = "nil"
			wantCode(t, b, 0, 0, pair(c, ability(0)), api.ErrFull, 5)
		case more < 4:
			wantCode(t, b, 0, 0, pair(c, ability(0)), api.ErrFull, 9)
		default:
			wantValue(t, b, 0, 0, pair(c, ability(0)), fmt.Sprint("#", n+3), 9)
		}
		wantNodes(t, b, n, all[:more]...)
		if got := vals.Text(b.Plugins[1].Kept); got != kept {
			t.Errorf("with room for %d it keeps %s, want %s", more, got, kept)
		}
		// What has no capabilities in it needs no room.
		wantValue(t, b, 0, 0, pair(c, number(5)), "5", 9)
	}
}

// The plugin that was asked is in the log, seals, opens and keeps as itself; and the one that asked is itself again behind that.
func TestWhoIsAsked(t *testing.T) {
	b := boxOf(t, "fun (pair (pair (ask (fst (arg)) (snd (arg))) (read (snd (arg)))) (pair (keep (num 1)) (seal (nil))))",
		"fun (pair (pair (write (arg) (num 9)) (read (arg))) (pair (keep (num 2)) (pair (seal (num 3)) (call 1 (seal (num 4)))))) fun (open (arg))")
	gates(t, b, 1)
	function(t, b, 1, 0, api.RAll, 0)
	cell(t, b, 6, api.RAll, -1)
	wantValue(t, b, 0, 0, pair(ability(0), ability(1)), "((((9 9) (nil ([1 3] 4))) 9) (nil [0 nil]))", 15+18)
	wantLog(t, b, 0, did(1, 6, api.RWrite, 2), did(1, 6, api.RRead, 2), did(0, 6, api.RRead, 1))
	if vals.Text(b.Plugins[0].Kept) != "1" || vals.Text(b.Plugins[1].Kept) != "2" {
		t.Errorf("they keep %v, %v", b.Plugins[0].Kept, b.Plugins[1].Kept)
	}
	// What one sealed the other one does not open, though it was handed it.
	b = boxOf(t, "fun (ask (arg) (seal (num 1))) fun (open (ask (arg) (nil)))", "fun (open (arg)) fun (seal (num 1)) fun (arg)")
	for f := range 3 {
		function(t, b, 1, f, api.RAsk, -1)
	}
	wantCode(t, b, 0, 0, ability(0), api.ErrSeal, 6)
	wantCode(t, b, 0, 1, ability(1), api.ErrSeal, 6)
	wantValue(t, b, 0, 0, ability(2), "[0 1]", 5)
}

// Names and arguments of the one that asks are not those of the one that is asked.
func TestNamesAndAsks(t *testing.T) {
	b := boxOf(t, "fun (let (num 1) (let (num 2) (pair (ask (arg) (let (num 3) (pair (var 0) (var 2)))) (pair (var 0) (var 1)))))",
		"fun (let (num 7) (let (num 8) (let (num 9) (pair (var 2) (arg)))))")
	function(t, b, 1, 0, api.RAsk, -1)
	wantValue(t, b, 0, 0, ability(0), "((7 (3 1)) (2 1))", 4+1+2+5+9+3)
}

// relay calls itself, or asks itself by its capability, in turns, as often as the int says.
const relay = `fun (if (snd (arg)) (call 1 (pair (fst (arg)) (bin sub (snd (arg)) (num 1)))) (num 7))
	fun (if (snd (arg)) (ask (fst (arg)) (pair (fst (arg)) (bin sub (snd (arg)) (num 1)))) (num 8))`

func TestCallsAndAsksAsDeepAsMayBe(t *testing.T) {
	for _, p := range []int{0, 1} {
		b := boxOf(t, relay, relay)
		c := function(t, b, p, 0, api.RAll, -1)
		for n := range int64(api.MaxFrames) {
			calls, asks := int(n+1)/2, int(n)/2
			wantValue(t, b, 0, 0, pair(c, number(n)), fmt.Sprint(7+n%2), calls*11+asks*13+4)
		}
		wantCode(t, b, 0, 0, pair(c, number(api.MaxFrames)), api.ErrDeep, 10*11+10*13)
		// The last one to be called asks.
		wantCode(t, b, 0, 1, pair(c, number(api.MaxFrames)), api.ErrDeep, 10*11+10*13)
		wantValue(t, b, 0, 1, pair(c, number(api.MaxFrames-1)), "7", 9*11+10*13+4)
	}
}

// ahead calls itself until there is room for none more, and then asks by the left one of its argument with the right one.
const ahead = "fun (call 1 (pair (arg) (num 18))) fun (if (snd (arg)) (call 1 (pair (fst (arg)) (bin sub (snd (arg)) (num 1)))) (ask (fst (fst (arg))) (snd (fst (arg)))))"

// Which code comes first, where there is no room for a call, either.
func TestAskWithoutRoom(t *testing.T) {
	b := boxOf(t, ahead, "fun (num 1)", "")
	gates(t, b, 1)
	good := function(t, b, 1, 0, api.RAll, 0)
	dead := function(t, b, 1, 0, api.RAll&^api.RAsk, 0)
	none, away := function(t, b, 1, 1, api.RAll, 0), function(t, b, 2, 0, api.RAll, 0)
	of := cell(t, b, 1, api.RAll, -1)
	const steps = 4 + 18*11 + 3 + 7
	wantStill(t, b, func() {
		for _, v := range []api.Val{number(5), good, of, gate(0), ability(99), dead} {
			wantCode(t, b, 0, 0, pair(good, v), api.ErrDeep, steps)
			wantCode(t, b, 0, 0, pair(dead, v), api.ErrRight, steps)
			wantCode(t, b, 0, 0, pair(none, v), api.ErrNone, steps)
			wantCode(t, b, 0, 0, pair(away, v), api.ErrNone, steps)
			wantCode(t, b, 0, 0, pair(of, v), api.ErrKind, steps)
			wantCode(t, b, 0, 0, pair(ability(99), v), api.ErrRight, steps)
			wantCode(t, b, 0, 0, pair(number(0), v), api.ErrKind, steps)
		}
	})
	room(b, 0)
	wantCode(t, b, 0, 0, pair(good, good), api.ErrDeep, steps)
	// With room for one call more there is another code, or none.
	load(t, b, 0, "fun (call 1 (pair (arg) (num 17)))"+ahead[len("fun (call 1 (pair (arg) (num 18)))"):])
	wantCode(t, b, 0, 0, pair(good, good), api.ErrFull, steps-11)
	wantCode(t, b, 0, 0, pair(good, gate(0)), api.ErrRight, steps-11)
	wantValue(t, b, 0, 0, pair(good, number(5)), "1", steps-11+1)
}

// A gate that is cut while one is asked through it: what has no capabilities comes back, and what has some does not.
func TestAskThroughAGateThatIsCutMeanwhile(t *testing.T) {
	texts := []string{
		"fun (let (keep (snd (arg))) (ask (fst (fst (arg))) (snd (fst (arg)))))",
		"fun (let (cut (kept)) (arg)) fun (let (cut (kept)) (num 5)) fun (let (cut (kept)) (kept)) fun (keep (arg)) fun (let (cut (kept)) (read (arg)))",
	}
	for _, x := range []struct{ f, cut, code int }{
		{0, 0, api.ErrRight}, {0, 1, api.ErrRight}, {0, 2, 0}, {1, 0, 0}, {1, 1, 0}, {1, 2, 0}, {2, 0, api.ErrRight}, {2, 2, api.ErrRight},
		{4, 0, api.ErrRight}, {4, 1, api.ErrRight}, {4, 2, 0},
	} {
		b := boxOf(t, texts...)
		gates(t, b, 3)
		to := derived(t, b, function(t, b, 1, x.f, api.RAll, 1), api.RAll, 0)
		c := cell(t, b, 3, api.RAll, -1)
		wantValue(t, b, 1, 3, gate(x.cut), "nil", 2)
		out, _, code := b.Run(0, 0, pair(pair(to, c), api.Val{}), api.MaxFuel)
		if code != x.code {
			t.Errorf("%v: %d", x, code)
		}
		if want := []string{"#6", "5", "", "", "0"}[x.f]; code == 0 && vals.Text(out) != want {
			t.Errorf("%v: %s, want %s", x, vals.Text(out), want)
		}
		for k := range 3 {
			if b.Open(k) == (k == x.cut) {
				t.Errorf("%v: the gate %d is wrong", x, k)
			}
		}
		// What was made on the way there is there, and on the way back only where it may be handed on.
		many := 5
		if x.f == 0 && x.code == 0 {
			many = 7
		}
		if got := len(b.Nodes()); got != many {
			t.Errorf("%v: there are %d capabilities", x, got)
		}
		if x.f != 4 || x.code != 0 {
			wantLog(t, b, 0)
		} else {
			wantLog(t, b, 0, did(1, 3, api.RRead, 4))
		}
	}
}

// What goes back goes through the gates of the capability by which was asked, even if others were made of it meanwhile.
func TestGatesAsTheyWere(t *testing.T) {
	b := boxOf(t, "fun (ask (fst (arg)) (arg))", "fun (let (wrap (fst (arg))) (let (wrap (fst (var 0))) (let (cut (snd (var 0))) (snd (arg)))))")
	gates(t, b, 1)
	to := function(t, b, 1, 0, api.RAll, 0)
	c := cell(t, b, 3, api.RAll, -1)
	wantValue(t, b, 0, 0, pair(to, c), "#6", 4+14)
	wantNodes(t, b, 2, from(0, 15, 0), from(1, 15, 0), from(2, 15, 1), from(4, 15, 2), from(3, 15, 0))
}

// Three plugins, each asked by that ahead of it, and a capability that goes through all gates there and back.
func TestAskOfAskOfAsk(t *testing.T) {
	b := boxOf(t, "fun (ask (fst (arg)) (snd (arg)))", "fun (ask (kept) (pair (arg) (seal (num 1)))) fun (keep (arg))", "fun (ask (kept) (arg)) fun (keep (arg))", "fun (write (fst (arg)) (num 4))")
	gates(t, b, 3)
	for p := 1; p < 4; p++ {
		function(t, b, p, 0, api.RAsk, p-1)
	}
	wantValue(t, b, 1, 1, ability(1), "nil", 2)
	wantValue(t, b, 2, 1, ability(2), "nil", 2)
	c := cell(t, b, 10, api.RWrite|api.RPass, -1)
	wantValue(t, b, 0, 0, pair(ability(0), c), "4", 5+6+3+4)
	wantNodes(t, b, 4, from(3, 15, 0), from(4, 15, 1), from(5, 15, 2))
	wantLog(t, b, 0, did(3, 10, api.RWrite, 6))
	b.Cut(1)
	wantStill(t, b, func() { wantCode(t, b, 0, 0, pair(ability(0), number(1)), api.ErrRight, 5+6) })
}
