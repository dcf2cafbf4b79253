package vm

import (
	"fmt"
	"math"
	"strings"
	"testing"

	"letterlock/api"
	"letterlock/vals"
)

// extremes are numbers about which something might go wrong.
var extremes = []int64{0, 1, -1, 2, 255, 256, 1 << 31, 1 << 32, -1 << 32, 1 << 62, math.MaxInt64 - 1, math.MaxInt64, math.MinInt64, math.MinInt64 + 1}

// wantPure asks for what one function of a plugin comes to with an argument, and that it does nothing.
func wantPure(t *testing.T, text string, arg api.Val, want string, steps int) {
	t.Helper()
	b := boxOf(t, "", text)
	wantStill(t, b, func() { wantValue(t, b, 1, 0, arg, want, steps) })
}

// wantPureCode asks for the code of one function of a plugin, and that it does nothing.
func wantPureCode(t *testing.T, text string, arg api.Val, code, steps int) {
	t.Helper()
	b := boxOf(t, "", text)
	wantStill(t, b, func() { wantCode(t, b, 1, 0, arg, code, steps) })
}

// ofEachKind are values of every kind, at the number of that.
func ofEachKind() [][]api.Val {
	return [][]api.Val{
		api.VNil:  {{}, {L: []api.Val{}}},
		api.VInt:  {number(0), number(1), number(-1), number(math.MinInt64), number(api.VCap), {Kind: api.VInt, N: 3, L: []api.Val{}}},
		api.VPair: {pair(number(1), number(2)), pair(ability(0), gate(0)), pair(seal(1, number(1)), api.Val{})},
		api.VSeal: {seal(0, number(1)), seal(1, number(1)), seal(1, ability(0)), seal(math.MaxInt64, pair(number(1), gate(0)))},
		api.VCap:  {ability(0), ability(1), ability(99), ability(math.MaxInt)},
		api.VGate: {gate(0), gate(1), gate(99), gate(math.MaxInt)},
	}
}

// others tells values of every kind but one.
func others(kind int) []api.Val {
	var all []api.Val
	for k, l := range ofEachKind() {
		if k != kind {
			all = append(all, l...)
		}
	}
	return all
}

func TestConstants(t *testing.T) {
	wantPure(t, "fun (nil)", number(5), "nil", 1)
	for _, n := range extremes {
		wantPure(t, fmt.Sprintf("fun (num %d)", n), api.Val{}, fmt.Sprint(n), 1)
	}
}

func TestArgument(t *testing.T) {
	for _, l := range ofEachKind() {
		for _, v := range l {
			wantPure(t, "fun (arg)", v, vals.Text(v), 1)
			wantPure(t, "fun (pair (arg) (pair (nil) (arg)))", v, "("+vals.Text(v)+" (nil "+vals.Text(v)+"))", 5)
		}
	}
	for _, n := range extremes {
		wantPure(t, "fun (arg)", number(n), fmt.Sprint(n), 1)
		if n >= 0 {
			wantPure(t, "fun (arg)", ability(int(n)), fmt.Sprint("#", n), 1)
			wantPure(t, "fun (arg)", gate(int(n)), fmt.Sprint("!", n), 1)
			wantPure(t, "fun (arg)", seal(n, api.Val{}), fmt.Sprint("[", n, " nil]"), 1)
		}
	}
	wantPure(t, "fun (arg)", sized(api.MaxValue), vals.Text(sized(api.MaxValue)), 1)
}

func TestNames(t *testing.T) {
	for _, x := range []struct {
		text, want string
		steps      int
	}{
		{"(let (num 1) (var 0))", "1", 3},
		{"(let (num 1) (arg))", "9", 3},
		{"(let (arg) (let (num 2) (pair (var 0) (var 1))))", "(2 9)", 7},
		{"(let (num 1) (let (num 2) (let (num 3) (pair (var 0) (pair (var 1) (var 2))))))", "(3 (2 1))", 11},
		// In the first one of a let its name is not open.
		{"(let (num 1) (let (var 0) (pair (var 0) (var 1))))", "(1 1)", 7},
		{"(let (num 1) (let (bin add (var 0) (num 1)) (let (bin add (var 0) (var 1)) (pair (var 0) (pair (var 1) (var 2))))))", "(3 (2 1))", 15},
		{"(let (let (num 5) (bin add (var 0) (num 1))) (var 0))", "6", 7},
		{"(let (num 1) (let (let (num 5) (pair (var 0) (var 1))) (pair (var 0) (var 1))))", "((5 1) 1)", 11},
		// Behind a let its name is open no longer.
		{"(let (num 1) (pair (let (num 2) (var 0)) (var 0)))", "(2 1)", 7},
		{"(let (num 1) (pair (var 0) (let (num 2) (pair (var 0) (var 1)))))", "(1 (2 1))", 9},
		{"(pair (let (num 1) (var 0)) (let (num 2) (var 0)))", "(1 2)", 7},
		{"(let (num 1) (pair (let (num 2) (let (num 3) (var 1))) (let (num 4) (pair (var 0) (var 1)))))", "(2 (4 1))", 13},
		// In ifs, on both sides.
		{"(let (num 7) (if (var 0) (let (num 8) (pair (var 0) (var 1))) (nil)))", "(8 7)", 9},
		{"(let (num 0) (if (var 0) (nil) (let (num 8) (pair (var 0) (var 1)))))", "(8 0)", 9},
		{"(let (num 1) (pair (if (let (num 0) (var 0)) (var 0) (let (num 2) (var 0))) (var 0)))", "(2 1)", 11},
		{"(let (num 1) (pair (if (let (num 3) (var 0)) (let (num 2) (var 0)) (var 0)) (var 0)))", "(2 1)", 11},
		{"(let (if (arg) (num 4) (num 5)) (if (bin eq (var 0) (num 4)) (var 0) (nil)))", "4", 9},
		// Under others, on both sides.
		{"(let (num 3) (bin sub (let (num 10) (var 0)) (var 0)))", "7", 7},
		{"(let (num 3) (bin sub (var 0) (let (num 10) (var 0))))", "-7", 7},
		{"(let (num 3) (fst (snd (pair (nil) (seal (var 0))))))", "", 8},
		{"(let (pair (num 3) (num 4)) (bin mul (fst (var 0)) (snd (var 0))))", "12", 9},
	} {
		if x.want == "" {
			wantPureCode(t, "fun "+x.text, number(9), api.ErrKind, x.steps)
		} else {
			wantPure(t, "fun "+x.text, number(9), x.want, x.steps)
		}
	}
}

func TestAsManyNamesAsMayBe(t *testing.T) {
	for k := range api.MaxLets {
		text := fmt.Sprintf("(var %d)", k)
		for n := range api.MaxLets {
			text = fmt.Sprintf("(let (num %d) %s)", n, text)
		}
		wantPure(t, "fun "+text, api.Val{}, fmt.Sprint(k), 2*api.MaxLets+1)
	}
}

// A function that is called knows none of the names around the call, and those are as they were when it came back.
func TestNamesAndCalls(t *testing.T) {
	wantPure(t, "fun (let (num 1) (let (call 1 (var 0)) (pair (var 0) (var 1)))) fun (let (num 5) (pair (var 0) (arg)))", number(9), "((5 1) 1)", 13)
	wantPure(t, "fun (let (num 1) (pair (call 1 (let (num 2) (var 0))) (pair (var 0) (arg)))) fun (let (num 5) (let (num 6) (pair (var 1) (arg))))",
		number(9), "((5 2) (1 9))", 17)
	wantPure(t, "fun (let (arg) (if (bin less (var 0) (num 3)) (pair (call 0 (bin add (var 0) (num 1))) (var 0)) (var 0)))",
		number(0), "(((3 2) 1) 0)", 3*12+7)
	wantPure(t, "fun (let (num 4) (if (call 1 (var 0)) (call 1 (bin add (var 0) (num 1))) (nil))) fun (let (bin mul (arg) (num 2)) (var 0))", number(9), "10", 19)
}

func TestIf(t *testing.T) {
	for _, n := range extremes {
		want, steps := "1", 3
		if n == 0 {
			want, steps = "2", 5
		}
		wantPure(t, "fun (if (arg) (num 1) (bin add (num 1) (num 1)))", number(n), want, steps)
		wantPure(t, fmt.Sprintf("fun (if (num %d) (num 1) (bin add (num 1) (num 1)))", n), api.Val{}, want, steps)
	}
	// Ifs in each place of ifs.
	for n, want := range []string{"30", "40", "10", "20"} {
		text := "fun (if (if (bin less (fst (arg)) (num 1)) (num 0) (num 5)) (if (snd (arg)) (num 20) (num 10)) (if (snd (arg)) (num 40) (num 30)))"
		wantPure(t, text, pair(number(int64(n/2)), number(int64(n%2))), want, 11)
	}
	wantPure(t, "fun (bin add (if (arg) (num 1) (num 2)) (if (num 0) (num 10) (if (arg) (num 20) (num 30))))", number(0), "32", 9)
	for _, v := range others(api.VInt) {
		wantPureCode(t, "fun (if (arg) (num 1) (num 2))", v, api.ErrKind, 2)
		wantPure(t, "fun (if (num 1) (arg) (nil))", v, vals.Text(v), 3)
		wantPure(t, "fun (if (num 0) (nil) (arg))", v, vals.Text(v), 3)
	}
}

// Of what is in an if only one of two is done.
func TestIfDoesOneAlone(t *testing.T) {
	for n, want := range []int64{2, 1} {
		b := boxOf(t, "fun (if (arg) (keep (num 1)) (keep (num 2)))")
		wantValue(t, b, 0, 0, number(int64(n)), "nil", 4)
		if !vals.Same(b.Plugins[0].Kept, number(want)) {
			t.Errorf("with %d it kept %v", n, b.Plugins[0].Kept)
		}
	}
	wantPure(t, "fun (if (arg) (num 1) (fst (nil)))", number(1), "1", 3)
	wantPureCode(t, "fun (if (arg) (num 1) (fst (nil)))", number(0), api.ErrKind, 4)
}

func TestBin(t *testing.T) {
	for k, word := range []string{"add", "sub", "mul", "less", "eq"} {
		for _, a := range extremes {
			for _, b := range extremes {
				want := fmt.Sprint(Arith(api.KAdd+k, a, b))
				wantPure(t, fmt.Sprintf("fun (bin %s (num %d) (num %d))", word, a, b), api.Val{}, want, 3)
				wantPure(t, "fun (bin "+word+" (fst (arg)) (snd (arg)))", pair(number(a), number(b)), want, 5)
			}
		}
	}
	wantPure(t, "fun (bin sub (bin mul (num 5) (num 7)) (bin add (num 1) (num 2)))", api.Val{}, "32", 7)
	wantPure(t, "fun (bin add (num 9223372036854775807) (arg))", number(1), "-9223372036854775808", 3)
}

func TestBinOfOtherKinds(t *testing.T) {
	for _, word := range []string{"add", "sub", "mul", "less", "eq"} {
		for _, v := range others(api.VInt) {
			wantPureCode(t, "fun (bin "+word+" (arg) (num 1))", v, api.ErrKind, 3)
			wantPureCode(t, "fun (bin "+word+" (num 1) (arg))", v, api.ErrKind, 3)
			wantPureCode(t, "fun (bin "+word+" (arg) (arg))", v, api.ErrKind, 3)
		}
	}
}

func TestPair(t *testing.T) {
	for _, l := range ofEachKind() {
		for _, v := range l {
			wantPure(t, "fun (pair (arg) (num 1))", v, "("+vals.Text(v)+" 1)", 3)
			wantPure(t, "fun (pair (num 1) (arg))", v, "(1 "+vals.Text(v)+")", 3)
			wantPure(t, "fun (fst (arg))", pair(v, number(5)), vals.Text(v), 2)
			wantPure(t, "fun (snd (arg))", pair(number(5), v), vals.Text(v), 2)
			wantPure(t, "fun (fst (pair (arg) (nil)))", v, vals.Text(v), 4)
			wantPure(t, "fun (snd (pair (nil) (arg)))", v, vals.Text(v), 4)
		}
	}
	for _, v := range others(api.VPair) {
		wantPureCode(t, "fun (fst (arg))", v, api.ErrKind, 2)
		wantPureCode(t, "fun (snd (arg))", v, api.ErrKind, 2)
	}
	// What is sealed is no pair, even if a pair is in it.
	wantPureCode(t, "fun (fst (seal (arg)))", pair(number(1), number(2)), api.ErrKind, 3)
}

func TestPairsAsGreatAsMayBe(t *testing.T) {
	for a := 1; a <= api.MaxValue; a++ {
		for b := 1; b <= api.MaxValue-a-1; b++ {
			v := pair(sized(a), sized(b))
			wantPure(t, "fun (pair (fst (arg)) (snd (arg)))", v, vals.Text(v), 5)
		}
	}
	for a := 1; a < api.MaxValue; a++ {
		wantTooMuch(t, sized(a), sized(api.MaxValue-a))
	}
	wantTooMuch(t, sized(api.MaxValue), sized(api.MaxValue))
	wantPureCode(t, "fun (pair (arg) (arg))", sized(api.MaxValue/2), api.ErrMany, 3)
	wantPure(t, "fun (fst (pair (arg) (arg)))", sized(api.MaxValue/2-1), vals.Text(sized(api.MaxValue/2-1)), 4)
	wantPureCode(t, "fun (fst (pair (arg) (arg)))", sized(api.MaxValue/2), api.ErrMany, 4)
	wantPureCode(t, "fun (pair (arg) (nil))", sized(api.MaxValue-1), api.ErrMany, 3)
	wantPureCode(t, "fun (pair (nil) (arg))", sized(api.MaxValue-1), api.ErrMany, 3)
	wantPure(t, "fun (pair (nil) (arg))", sized(api.MaxValue-2), "(nil "+vals.Text(sized(api.MaxValue-2))+")", 3)
}

// wantTooMuch asks that two values make no pair, since it would have too many parts.
func wantTooMuch(t *testing.T, a, b api.Val) {
	t.Helper()
	box := boxOf(t, "fun (keep (arg)) fun (pair (kept) (arg))")
	wantValue(t, box, 0, 0, a, "nil", 2)
	wantStill(t, box, func() { wantCode(t, box, 0, 1, b, api.ErrMany, 3) })
}

func TestSealsAsGreatAsMayBe(t *testing.T) {
	for parts := 1; parts < api.MaxValue; parts++ {
		wantPure(t, "fun (seal (arg))", sized(parts), "[1 "+vals.Text(sized(parts))+"]", 2)
	}
	wantPureCode(t, "fun (seal (arg))", sized(api.MaxValue), api.ErrMany, 2)
	wantPureCode(t, "fun (open (seal (arg)))", sized(api.MaxValue), api.ErrMany, 3)
	wantPureCode(t, "fun (seal (seal (arg)))", sized(api.MaxValue-1), api.ErrMany, 3)
	text := "(nil)"
	for range 25 {
		text = "(seal " + text + ")"
	}
	wantPure(t, "fun "+text, api.Val{}, strings.Repeat("[1 ", 25)+"nil"+strings.Repeat("]", 25), 26)
}

func TestSealAndOpen(t *testing.T) {
	for _, l := range ofEachKind() {
		for _, v := range l {
			b := New()
			for p := range api.MaxPlugins {
				load(t, b, p, "fun (seal (arg)) fun (open (arg)) fun (open (seal (arg)))")
			}
			for p := range api.MaxPlugins {
				sealed, _, _ := b.Run(p, 0, v, api.MaxFuel)
				wantValue(t, b, p, 0, v, fmt.Sprintf("[%d %s]", p, vals.Text(v)), 2)
				wantValue(t, b, p, 2, v, vals.Text(v), 3)
				for q := range api.MaxPlugins {
					if p == q {
						wantValue(t, b, q, 1, sealed, vals.Text(v), 2)
					} else {
						wantCode(t, b, q, 1, sealed, api.ErrSeal, 2)
					}
				}
			}
		}
	}
}

func TestOpenOfOthers(t *testing.T) {
	for _, v := range others(api.VSeal) {
		wantPureCode(t, "fun (open (arg))", v, api.ErrKind, 2)
		wantPureCode(t, "fun (open (pair (arg) (seal (nil))))", v, api.ErrKind, 5)
	}
	for _, n := range extremes {
		if n >= 0 && n != 1 {
			wantPureCode(t, "fun (open (arg))", seal(n, number(5)), api.ErrSeal, 2)
			wantPureCode(t, "fun (open (open (arg)))", seal(1, seal(n, number(5))), api.ErrSeal, 3)
		}
	}
	wantPure(t, "fun (open (open (arg)))", seal(1, seal(1, number(5))), "5", 3)
	wantPure(t, "fun (open (arg))", seal(1, seal(2, number(5))), "[2 5]", 2)
	wantPureCode(t, "fun (open (open (arg)))", seal(1, number(5)), api.ErrKind, 3)
}

func TestKeep(t *testing.T) {
	b := boxOf(t, "fun (keep (arg)) fun (kept)", "fun (keep (arg)) fun (kept)")
	wantValue(t, b, 0, 1, number(1), "nil", 1)
	ahead := "nil"
	for _, l := range ofEachKind() {
		for _, v := range l {
			wantValue(t, b, 0, 0, v, ahead, 2)
			ahead = vals.Text(v)
			wantValue(t, b, 0, 1, number(1), ahead, 1)
			wantValue(t, b, 0, 1, number(1), ahead, 1)
			wantValue(t, b, 1, 1, number(1), "nil", 1)
			if !vals.Same(b.Plugins[0].Kept, v) || !vals.Same(b.Plugins[1].Kept, api.Val{}) {
				t.Errorf("it keeps %v, the other one %v", b.Plugins[0].Kept, b.Plugins[1].Kept)
			}
		}
	}
	// Each plugin keeps by itself.
	wantValue(t, b, 1, 0, number(5), "nil", 2)
	wantValue(t, b, 0, 1, number(1), ahead, 1)
	wantValue(t, b, 1, 0, sized(api.MaxValue), "5", 2)
	wantValue(t, b, 1, 1, number(1), vals.Text(sized(api.MaxValue)), 1)
	wantCode(t, b, 2, 1, number(1), api.ErrNone, 0)
}

func TestKeepWithinARun(t *testing.T) {
	for _, x := range []struct {
		text, want, kept string
		steps            int
	}{
		{"fun (pair (keep (num 1)) (kept))", "(nil 1)", "1", 4},
		{"fun (pair (kept) (keep (num 1)))", "(nil nil)", "1", 4},
		{"fun (keep (keep (num 1)))", "1", "nil", 3},
		{"fun (keep (keep (keep (num 1))))", "nil", "1", 4},
		{"fun (pair (keep (num 1)) (pair (keep (num 2)) (keep (num 3))))", "(nil (1 2))", "3", 8},
		{"fun (keep (pair (kept) (arg)))", "nil", "(nil 9)", 4},
		{"fun (let (keep (arg)) (keep (pair (kept) (kept))))", "9", "(9 9)", 7},
		{"fun (pair (call 1 (num 4)) (kept)) fun (keep (arg))", "(nil 4)", "4", 6},
		{"fun (pair (keep (num 3)) (call 1 (nil))) fun (seal (kept))", "(nil [0 3])", "3", 7},
	} {
		b := boxOf(t, x.text)
		wantValue(t, b, 0, 0, number(9), x.want, x.steps)
		if got := vals.Text(b.Plugins[0].Kept); got != x.kept {
			t.Errorf("%s: it keeps %s, want %s", x.text, got, x.kept)
		}
	}
}

// What was kept ahead of a code is kept.
func TestKeepAheadOfACode(t *testing.T) {
	b := boxOf(t, "fun (fst (keep (arg))) fun (pair (keep (arg)) (open (nil))) fun (kept)")
	wantCode(t, b, 0, 0, number(5), api.ErrKind, 3)
	wantValue(t, b, 0, 2, number(1), "5", 1)
	wantCode(t, b, 0, 1, number(6), api.ErrKind, 5)
	wantValue(t, b, 0, 2, number(1), "6", 1)
	wantFuelCode(t, b, 0, 1, number(7), 3, api.ErrFuel, 3)
	wantFuel(t, b, 0, 2, number(1), 1, "7", 1)
	wantFuelCode(t, b, 0, 1, number(8), 2, api.ErrFuel, 2)
	wantFuel(t, b, 0, 2, number(1), 1, "7", 1)
}

// What is in an expression comes first, from the left: so the code of the first one that has one is told.
func TestFromTheLeft(t *testing.T) {
	kind, sealed := "(fst (nil))", "(open (arg))"
	arg := seal(0, number(1))
	for _, word := range []string{"pair", "bin add", "write", "ask"} {
		wantPureCode(t, "fun ("+word+" "+kind+" "+sealed+")", arg, api.ErrKind, 3)
		wantPureCode(t, "fun ("+word+" "+sealed+" "+kind+")", arg, api.ErrSeal, 3)
		wantPureCode(t, "fun ("+word+" (nil) "+sealed+")", arg, api.ErrSeal, 4)
	}
	for _, word := range []string{"fst", "snd", "seal", "open", "read", "narrow 1", "wrap", "cut", "call 0", "keep"} {
		wantPureCode(t, "fun ("+word+" "+sealed+")", arg, api.ErrSeal, 3)
	}
	wantPureCode(t, "fun (let "+sealed+" "+kind+")", arg, api.ErrSeal, 3)
	wantPureCode(t, "fun (let (nil) "+sealed+")", arg, api.ErrSeal, 4)
	wantPureCode(t, "fun (if "+sealed+" "+kind+" "+kind+")", arg, api.ErrSeal, 3)
	wantPureCode(t, "fun (if (num 1) "+sealed+" "+kind+")", arg, api.ErrSeal, 4)
	wantPureCode(t, "fun (if (num 0) "+kind+" "+sealed+")", arg, api.ErrSeal, 4)
}

// A step begins ahead of what is in it, and what it comes to is known behind that.
func TestFuelAndOtherCodes(t *testing.T) {
	b := boxOf(t, "fun (fst (open (nil)))")
	for fuel := range 3 {
		wantFuelCode(t, b, 0, 0, number(1), fuel, api.ErrFuel, fuel)
	}
	wantFuelCode(t, b, 0, 0, number(1), 3, api.ErrKind, 3)
	b = boxOf(t, "fun (pair (fst (nil)) (num 1))")
	wantFuelCode(t, b, 0, 0, number(1), 2, api.ErrFuel, 2)
	wantFuelCode(t, b, 0, 0, number(1), 3, api.ErrKind, 3)
}
