package vm

import (
	"fmt"
	"reflect"
	"runtime/debug"
	"slices"
	"strings"
	"testing"

	"letterlock/api"
	"letterlock/compile"
	"letterlock/vals"
)

// memory tells where all elements of all lists of a thing lie, with those behind the lists' lengths.
func memory(v api.Val) []*api.Val {
	var all []*api.Val
	l := v.L[:cap(v.L)]
	for i := range l {
		all = append(all, &l[i])
		if i < len(v.L) {
			all = append(all, memory(l[i])...)
		}
	}
	return all
}

// lying tells what lies in all lists of a thing, with what lies behind their lengths.
func lying(v api.Val) []api.Val {
	var all []api.Val
	for _, p := range memory(v) {
		all = append(all, *p)
	}
	return all
}

// shares tells whether some of these things share memory, or lists of one of them do.
func shares(things ...api.Val) bool {
	met := make(map[*api.Val]bool)
	for _, v := range things {
		for _, p := range memory(v) {
			if met[p] {
				return true
			}
			met[p] = true
		}
	}
	return false
}

// doubled tells a thing of which every list stands in memory once, and is there twice as often as that around it.
func doubled(depth int, v api.Val) api.Val {
	for range depth {
		v = pair(v, v)
	}
	return v
}

// sharing are values with lists that lie in memory at once, or have memory behind them.
func sharing() []api.Val {
	both := pair(number(1), seal(0, number(2)))
	one := []api.Val{number(3), number(4), {Kind: 77, N: -1}}
	return []api.Val{
		both, pair(both, both), seal(0, pair(both, both)), doubled(3, number(6)), pair(both, pair(both, number(1))), pair(sized(9), sized(9)),
		{Kind: api.VPair, L: one[:2]}, pair(api.Val{Kind: api.VPair, L: one[:2]}, api.Val{Kind: api.VSeal, L: one[1:2]}),
		{Kind: api.VInt, N: 5, L: one[:0]}, {L: one[1:1]}, pair(api.Val{L: one[:0]}, api.Val{L: one[:0]}), seal(0, api.Val{L: one[2:2]}),
		number(5), {},
	}
}

// remembering are functions that come to what they were given, or to what is kept, in many ways.
var remembering = []string{
	"fun (arg)", "fun (kept)", "fun (keep (arg))", "fun (pair (arg) (arg))", "fun (pair (kept) (kept))", "fun (let (keep (arg)) (kept))",
	"fun (let (keep (arg)) (pair (kept) (arg)))", "fun (pair (keep (arg)) (kept))", "fun (keep (keep (arg)))", "fun (seal (arg))",
	"fun (open (seal (arg)))", "fun (fst (pair (arg) (nil)))", "fun (let (arg) (pair (var 0) (var 0)))", "fun (call 1 (arg)) fun (pair (arg) (kept))",
	"fun (let (keep (pair (arg) (arg))) (kept))", "fun (let (keep (pair (arg) (arg))) (fst (kept)))", "fun (let (keep (seal (arg))) (open (kept)))",
	"fun (let (pair (arg) (arg)) (let (keep (var 0)) (let (fst (var 1)) (pair (var 0) (kept)))))",
	"fun (if (num 1) (arg) (kept))", "fun (let (keep (arg)) (let (keep (kept)) (pair (var 0) (var 1))))",
}

func TestAnswersAreNewMemory(t *testing.T) {
	for _, text := range remembering {
		for i := range sharing() {
			b := boxOf(t, text)
			ahead, arg := sharing()[i], sharing()[i]
			b.Plugins[0].Kept = ahead
			before, lies, liesAhead := vals.Text(arg), lying(arg), lying(ahead)
			out, _, code := b.Run(0, 0, arg, api.MaxFuel)
			if code != 0 && code != api.ErrMany {
				t.Fatalf("%s with %s: %d", text, before, code)
			}
			kept := b.Plugins[0].Kept
			if shares(out) || sharesWith(out, arg) || sharesWith(out, kept) || sharesWith(out, ahead) {
				t.Errorf("%s with %s: the answer shares memory", text, before)
			}
			if anew := strings.Contains(text, "(keep "); anew && (shares(kept) || sharesWith(kept, arg) || sharesWith(kept, ahead)) {
				t.Errorf("%s with %s: what is kept shares memory", text, before)
			}
			if vals.Text(arg) != before || !reflect.DeepEqual(lying(arg), lies) || !reflect.DeepEqual(lying(ahead), liesAhead) {
				t.Errorf("%s with %s: what was handed in changed", text, before)
			}
		}
	}
}

// sharesWith tells whether two things share memory, whatever is so within each of them.
func sharesWith(a, b api.Val) bool {
	all := memory(b)
	return slices.ContainsFunc(memory(a), func(p *api.Val) bool { return slices.Contains(all, p) })
}

// The answers of one run after the other share nothing, either.
func TestAnswersOfSeveralRuns(t *testing.T) {
	for _, text := range remembering {
		b := boxOf(t, text)
		var all []api.Val
		for range 3 {
			out, _, code := b.Run(0, 0, pair(number(1), seal(0, number(2))), api.MaxFuel)
			if code != 0 {
				break
			}
			all = append(all, out)
		}
		if shares(append(all, b.Plugins[0].Kept)...) {
			t.Errorf("%s: answers share memory", text)
		}
	}
}

// Neither what was handed in nor what was answered is kept: either may be changed afterwards.
func TestNothingOfOthersIsKept(t *testing.T) {
	b := boxOf(t, "fun (let (keep (arg)) (pair (kept) (var 0))) fun (kept)")
	arg := pair(number(1), seal(0, number(2)))
	out, _, _ := b.Run(0, 0, arg, api.MaxFuel)
	arg.L[0], arg.L[1].L[0] = number(8), number(9)
	if got := vals.Text(out); got != "((1 [0 2]) nil)" {
		t.Errorf("what was answered changed: %s", got)
	}
	wantValue(t, b, 0, 1, number(1), "(1 [0 2])", 1)
	out.L[0].L[0], out.L[0].L[1].L[0], out.L[1] = gate(8), gate(9), gate(1)
	wantValue(t, b, 0, 1, number(1), "(1 [0 2])", 1)
	first, _, _ := b.Run(0, 1, number(1), api.MaxFuel)
	first.L[0], first.L[1].L[0] = gate(8), gate(9)
	second, _, _ := b.Run(0, 1, number(1), api.MaxFuel)
	b.Plugins[0].Kept.L[0] = number(7)
	if got := vals.Text(second); got != "(1 [0 2])" {
		t.Errorf("what was answered changed: %s", got)
	}
	wantValue(t, b, 0, 1, number(1), "(7 [0 2])", 1)
}

// What is handed from plugin to plugin shares nothing, either.
func TestMemoryAndAsks(t *testing.T) {
	for _, k := range []int{-1, 0} {
		for i := range sharing() {
			b := boxOf(t, "fun (let (keep (snd (arg))) (ask (fst (arg)) (kept)))", "fun (let (keep (arg)) (pair (kept) (arg)))")
			gates(t, b, 1)
			to := function(t, b, 1, 0, api.RAll, k)
			v := sharing()[i]
			out, _, code := b.Run(0, 0, pair(to, v), api.MaxFuel)
			if code != 0 {
				t.Fatalf("%s: %d", vals.Text(v), code)
			}
			if want := vals.Text(pair(v, v)); vals.Text(out) != want {
				t.Errorf("%s, want %s", vals.Text(out), want)
			}
			if shares(out, b.Plugins[0].Kept, b.Plugins[1].Kept) || sharesWith(v, out) || sharesWith(v, b.Plugins[0].Kept) || sharesWith(v, b.Plugins[1].Kept) {
				t.Errorf("%s: memory is shared", vals.Text(v))
			}
		}
	}
}

// What lies behind a list's length is neither read nor written.
func TestBehindTheLength(t *testing.T) {
	parts := []api.Val{number(1), number(2), {Kind: 9}, ability(-1)}
	b := boxOf(t, "fun (pair (snd (arg)) (fst (arg))) fun (let (keep (arg)) (seal (kept)))")
	wantValue(t, b, 0, 0, api.Val{Kind: api.VPair, L: parts[:2]}, "(2 1)", 5)
	wantValue(t, b, 0, 1, api.Val{Kind: api.VPair, L: parts[:2]}, "[0 (1 2)]", 5)
	wantValue(t, b, 0, 1, api.Val{Kind: api.VInt, N: 5, L: parts[2:2]}, "[0 5]", 5)
	wantCode(t, b, 0, 0, api.Val{Kind: api.VPair, L: parts[1:3]}, api.ErrKind, 0)
	if !reflect.DeepEqual(parts, []api.Val{number(1), number(2), {Kind: 9}, ability(-1)}) {
		t.Errorf("it changed: %v", parts)
	}
}

func TestListsThatAreEmpty(t *testing.T) {
	text := "fun (let (keep (fst (arg))) (pair (kept) (snd (arg))))"
	nils, empties := boxOf(t, text), boxOf(t, text)
	empties.Plugins[0].Kept = api.Val{L: []api.Val{}}
	a := pair(number(5), api.Val{})
	b := api.Val{Kind: api.VPair, L: []api.Val{{Kind: api.VInt, N: 5, L: []api.Val{}}, {L: make([]api.Val, 0, 3)}}}
	for range 2 {
		wantValue(t, nils, 0, 0, a, "(5 nil)", 8)
		wantValue(t, empties, 0, 0, b, "(5 nil)", 8)
	}
	if state(nils) != state(empties) {
		t.Errorf("%s, %s", state(nils), state(empties))
	}
	for _, kind := range []int{api.VPair, api.VSeal} {
		wantCode(t, nils, 0, 0, api.Val{Kind: kind}, api.ErrForm, 0)
		wantCode(t, nils, 0, 0, api.Val{Kind: kind, L: []api.Val{}}, api.ErrForm, 0)
	}
}

// A plugin is as it was loaded, whatever it did, and so are the others.
func TestCodeStays(t *testing.T) {
	texts := []string{relay, "fun (keep (wrap (arg))) fun (fst (nil))", ahead, down}
	b, other := boxOf(t, texts...), boxOf(t, texts...)
	c := function(t, b, 0, 0, api.RAll, -1)
	var codes [][][]compile.Ins
	for _, p := range b.Plugins {
		codes = append(codes, p.Code)
	}
	for p := range b.Plugins {
		for f := range 2 {
			for _, v := range []api.Val{number(5), pair(c, number(5)), c, pair(c, c)} {
				b.Run(p, f, v, api.MaxFuel)
			}
		}
	}
	for p := range b.Plugins {
		if !b.Plugins[p].There || !reflect.DeepEqual(b.Plugins[p].Code, other.Plugins[p].Code) || &b.Plugins[p].Code[0] != &codes[p][0] {
			t.Errorf("the plugin %d changed", p)
		}
	}
}

// Plugins may be of the same instructions, and are each by themselves nevertheless.
func TestCodeThatIsShared(t *testing.T) {
	b := boxOf(t, "fun (keep (seal (arg)))")
	b.Plugins[2] = Plugin{There: true, Code: b.Plugins[0].Code}
	wantValue(t, b, 0, 0, number(1), "nil", 3)
	wantValue(t, b, 2, 0, number(2), "nil", 3)
	wantValue(t, b, 0, 0, number(3), "[0 1]", 3)
	wantValue(t, b, 2, 0, number(4), "[2 2]", 3)
}

// Two boxes in which the same is done answer the same, and know nothing of each other.
func TestBoxesByThemselves(t *testing.T) {
	texts := []string{"fun (let (wrap (arg)) (keep (pair (var 0) (kept)))) fun (write (fst (fst (kept))) (arg)) fun (cut (snd (fst (kept)))) fun (kept)"}
	a, b, idle := boxOf(t, texts...), boxOf(t, texts...), boxOf(t, texts...)
	still := state(idle)
	steps := []struct {
		f   int
		arg api.Val
	}{{3, number(1)}, {0, ability(0)}, {1, number(5)}, {0, ability(1)}, {1, number(6)}, {2, number(1)}, {1, number(7)}, {3, number(1)}, {0, number(1)}}
	cell(t, a, 5, api.RAll, -1)
	var told []string
	for _, x := range steps {
		out, used, code := a.Run(0, x.f, x.arg, api.MaxFuel)
		told = append(told, fmt.Sprint(vals.Text(out), used, code, state(a)))
	}
	if state(idle) != still || state(b) != still {
		t.Error("one box knows of the other one")
	}
	cell(t, b, 5, api.RAll, -1)
	for i, x := range steps {
		out, used, code := b.Run(0, x.f, x.arg, api.MaxFuel)
		if got := fmt.Sprint(vals.Text(out), used, code, state(b)); got != told[i] {
			t.Errorf("step %d: %s, want %s", i, got, told[i])
		}
	}
}

// Arguments that are very deep or very wide, where calls can't be as deep.
func TestEnds(t *testing.T) {
	before := debug.SetMaxStack(1 << 20)
	defer debug.SetMaxStack(before)
	const many = 300000
	deep := number(1)
	for range many {
		deep = seal(1, deep)
	}
	right := number(1)
	for range many {
		right = pair(number(1), right)
	}
	b := boxOf(t, "fun (keep (arg))")
	wantStill(t, b, func() {
		for _, v := range []api.Val{deep, right, doubled(300, number(1)), {Kind: api.VPair, L: make([]api.Val, many)}} {
			if out, used, code := b.Run(0, 0, v, api.MaxFuel); code != api.ErrMany || used != 0 || !reflect.DeepEqual(out, api.Val{}) {
				t.Errorf("%d in %d, want %d", code, used, api.ErrMany)
			}
		}
	})
}

// As much as may be stands on a function's way: expressions as deep as may be, in calls as deep as may be.
func TestAsDeepAsMayBe(t *testing.T) {
	deep := "(call 0 (bin sub (arg) (num 1)))"
	for range api.MaxDeep - 5 {
		deep = "(bin add (num 1) " + deep + ")"
	}
	b := boxOf(t, "fun (if (arg) "+deep+" (num 0))")
	const lap = 2 + 2*(api.MaxDeep-5) + 4
	wantValue(t, b, 0, 0, number(19), fmt.Sprint(19*(api.MaxDeep-5)), 19*lap+3)
	wantCode(t, b, 0, 0, number(20), api.ErrDeep, 20*lap)
}

// Also in a plugin whose Kept was laid by hand, and is no value, a run ends, and without a panic.
func TestKeptThatIsNoValue(t *testing.T) {
	for _, things := range noValues() {
		for _, v := range things {
			for _, text := range []string{"(fst (kept))", "(open (kept))", "(pair (kept) (kept))", "(seal (kept))", "(ask (arg) (kept))", "(keep (kept))", "(read (kept))", "(cut (kept))"} {
				b := boxOf(t, "fun "+text, "fun (arg)")
				b.Plugins[0].Kept = v
				b.Run(0, 0, function(t, b, 1, 0, api.RAll, -1), api.MaxFuel)
			}
		}
	}
}
