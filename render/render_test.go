package render

import (
	"fmt"
	"math"
	"math/rand"
	"reflect"
	"runtime/debug"
	"slices"
	"strings"
	"testing"

	"letterlock/api"
	"letterlock/code"
	"letterlock/parse"
)

// kinds are the words of the kinds, as the document tells them, and how many expressions each has in it.
var kinds = map[int]struct {
	word  string
	parts int
}{
	api.ENil: {"nil", 0}, api.ENum: {"num", 0}, api.EArg: {"arg", 0}, api.EVar: {"var", 0}, api.ELet: {"let", 2},
	api.EBin: {"bin", 2}, api.EIf: {"if", 3}, api.EPair: {"pair", 2}, api.EFst: {"fst", 1}, api.ESnd: {"snd", 1},
	api.ESeal: {"seal", 1}, api.EOpen: {"open", 1}, api.ERead: {"read", 1}, api.EWrite: {"write", 2},
	api.ENarrow: {"narrow", 1}, api.EWrap: {"wrap", 1}, api.ECut: {"cut", 1}, api.ECall: {"call", 1},
	api.EAsk: {"ask", 2}, api.EKeep: {"keep", 1}, api.EKept: {"kept", 0},
}

// ways are the words of arithmetic.
var ways = map[int]string{api.KAdd: "add", api.KSub: "sub", api.KMul: "mul", api.KLess: "less", api.KEq: "eq"}

var (
	arg  = api.Expr{Op: api.EArg}
	none = api.Expr{Op: api.ENil}
	kept = api.Expr{Op: api.EKept}
)

func num(n int64) api.Expr                { return api.Expr{Op: api.ENum, N: n} }
func name(k int) api.Expr                 { return api.Expr{Op: api.EVar, K: k} }
func of(op int, l ...api.Expr) api.Expr   { return api.Expr{Op: op, L: l} }
func fst(e api.Expr) api.Expr             { return of(api.EFst, e) }
func pair(a, b api.Expr) api.Expr         { return of(api.EPair, a, b) }
func let(a, b api.Expr) api.Expr          { return of(api.ELet, a, b) }
func bin(k int, a, b api.Expr) api.Expr   { return api.Expr{Op: api.EBin, K: k, L: []api.Expr{a, b}} }
func narrow(k int, e api.Expr) api.Expr   { return api.Expr{Op: api.ENarrow, K: k, L: []api.Expr{e}} }
func call(k int, e api.Expr) api.Expr     { return api.Expr{Op: api.ECall, K: k, L: []api.Expr{e}} }
func module(funcs ...api.Expr) api.Module { return api.Module{Funcs: funcs} }
func fault(code, at int) api.Fault        { return api.Fault{Code: code, At: at} }
func args(n int) []api.Expr               { return slices.Repeat([]api.Expr{arg}, n) }

func wrapped(depth int, e api.Expr, in func(api.Expr) api.Expr) api.Expr {
	for range depth {
		e = in(e)
	}
	return e
}

func inFst(depth int, e api.Expr) api.Expr { return wrapped(depth, e, fst) }

func inLets(depth int, e api.Expr) api.Expr {
	return wrapped(depth, e, func(e api.Expr) api.Expr { return let(arg, e) })
}

// doubled tells an expression of which every list stands in memory once, and is there twice as often as that around it.
func doubled(depth int, e api.Expr) api.Expr {
	return wrapped(depth, e, func(e api.Expr) api.Expr { return pair(e, e) })
}

// inSelf tells a list of so many expressions, each of which has that list in it.
func inSelf(size, op int) []api.Expr {
	l := make([]api.Expr, size)
	for i := range l {
		l[i] = of(op, l...)
	}
	return l
}

// sized tells an expression of so many parts that is not deep.
func sized(parts int) api.Expr {
	switch parts {
	case 1:
		return arg
	case 2:
		return fst(arg)
	}
	left := (parts - 1) / 2
	return pair(sized(left), sized(parts-1-left))
}

// words tells what stands in an expression's brackets, ahead of its expressions.
func words(e api.Expr) []string {
	l := []string{kinds[e.Op].word}
	switch e.Op {
	case api.ENum:
		l = append(l, fmt.Sprint(e.N))
	case api.EVar, api.ECall, api.ENarrow:
		l = append(l, fmt.Sprint(e.K))
	case api.EBin:
		l = append(l, ways[e.K])
	}
	return l
}

func textOf(e api.Expr) string {
	l := words(e)
	for _, inner := range e.L {
		l = append(l, textOf(inner))
	}
	return "(" + strings.Join(l, " ") + ")"
}

// reference tells what Print should of a module in which nothing is wrong, however long it is.
func reference(m api.Module) string {
	s := ""
	for _, f := range m.Funcs {
		s += fmt.Sprintf("fun %s\n", textOf(f))
	}
	return s
}

// told tells a text, unless that is too much to read.
func told(s string) string {
	if len(s) > 300 {
		return fmt.Sprintf("%q.. of %d bytes", s[:300], len(s))
	}
	return fmt.Sprintf("%q", s)
}

func wantText(t *testing.T, m api.Module, want string) {
	t.Helper()
	s, f := Print(m)
	if f != (api.Fault{}) {
		t.Errorf("the fault %v, want the text %s", f, told(want))
		return
	}
	if s != want {
		t.Errorf("the text %s, want %s", told(s), told(want))
	}
}

func wantFault(t *testing.T, what string, m api.Module, want api.Fault) {
	t.Helper()
	s, f := Print(m)
	if f != want {
		t.Errorf("%s: the fault %v, want %v", what, f, want)
	}
	if s != "" {
		t.Errorf("%s: the text %s with the fault %v", what, told(s), f)
	}
}

// wantBack asks that Parse of the text is the module, and that it is printed as the same text again.
func wantBack(t *testing.T, m api.Module) {
	t.Helper()
	s, f := Print(m)
	if f.Code != 0 {
		t.Errorf("the fault %v of what is %s", f, told(reference(m)))
		return
	}
	back, f := parse.Parse(s)
	if f != (api.Fault{}) || !code.Same(back, m) {
		t.Errorf("Parse of %s: %v and the fault %v, want %v", told(s), back, f, m)
		return
	}
	if again, f := Print(back); again != s || f != (api.Fault{}) {
		t.Errorf("%s is printed again as %s with the fault %v", told(s), told(again), f)
	}
}

func TestPrintEveryKind(t *testing.T) {
	met := map[int]bool{}
	for want, e := range map[string]api.Expr{
		"(nil)":                            none,
		"(num 7)":                          num(7),
		"(arg)":                            arg,
		"(let (nil) (var 0))":              let(none, name(0)),
		"(let (arg) (let (nil) (var 1)))":  let(arg, let(none, name(1))),
		"(bin sub (arg) (num 1))":          bin(api.KSub, arg, num(1)),
		"(if (num 1) (num 2) (num 3))":     of(api.EIf, num(1), num(2), num(3)),
		"(pair (num 1) (num 2))":           pair(num(1), num(2)),
		"(fst (arg))":                      fst(arg),
		"(snd (arg))":                      of(api.ESnd, arg),
		"(seal (arg))":                     of(api.ESeal, arg),
		"(open (arg))":                     of(api.EOpen, arg),
		"(read (arg))":                     of(api.ERead, arg),
		"(write (arg) (num 5))":            of(api.EWrite, arg, num(5)),
		"(narrow 5 (arg))":                 narrow(5, arg),
		"(wrap (arg))":                     of(api.EWrap, arg),
		"(cut (snd (wrap (arg))))":         of(api.ECut, of(api.ESnd, of(api.EWrap, arg))),
		"(call 0 (arg))":                   call(0, arg),
		"(ask (arg) (num 4))":              of(api.EAsk, arg, num(4)),
		"(keep (arg))":                     of(api.EKeep, arg),
		"(kept)":                           kept,
		"(read (narrow 1 (arg)))":          of(api.ERead, narrow(1, arg)),
		"(if (kept) (keep (arg)) (nil))":   of(api.EIf, kept, of(api.EKeep, arg), none),
		"(ask (fst (arg)) (snd (arg)))":    of(api.EAsk, fst(arg), of(api.ESnd, arg)),
		"(pair (pair (nil) (arg)) (kept))": pair(pair(none, arg), kept),
		"(pair (nil) (pair (arg) (kept)))": pair(none, pair(arg, kept)),
	} {
		met[e.Op] = true
		wantText(t, module(e), "fun "+want+"\n")
		wantText(t, module(arg, e), "fun (arg)\nfun "+want+"\n")
		wantText(t, module(e, none), "fun "+want+"\nfun (nil)\n")
		wantText(t, module(e, e, e), strings.Repeat("fun "+want+"\n", 3))
		wantBack(t, module(e, arg, e))
	}
	// A name stands where one is open alone.
	if len(met) != len(kinds)-1 || met[api.EVar] || len(kinds) != api.EKept {
		t.Errorf("%d of %d kinds were printed", len(met), len(kinds))
	}
}

func TestPrintEveryArithmetic(t *testing.T) {
	for k, word := range ways {
		wantText(t, module(bin(k, num(3), arg)), "fun (bin "+word+" (num 3) (arg))\n")
		wantText(t, module(bin(k, bin(k, arg, none), kept)), "fun (bin "+word+" (bin "+word+" (arg) (nil)) (kept))\n")
		wantBack(t, module(bin(k, num(3), arg)))
	}
	if len(ways) != api.KEq {
		t.Errorf("%d kinds of arithmetic were printed", len(ways))
	}
}

func TestPrintNumbers(t *testing.T) {
	for n, want := range map[int64]string{
		0: "0", 1: "1", 9: "9", 10: "10", 42: "42", 999: "999", 1000: "1000", 1234567: "1234567", 1<<53 + 1: "9007199254740993",
		-1: "-1", -9: "-9", -10: "-10", -1000: "-1000", 1 << 31: "2147483648", -1 << 31: "-2147483648", 1 << 32: "4294967296",
		math.MaxInt64: "9223372036854775807", math.MaxInt64 - 1: "9223372036854775806",
		math.MinInt64: "-9223372036854775808", math.MinInt64 + 1: "-9223372036854775807",
	} {
		wantText(t, module(num(n)), "fun (num "+want+")\n")
		wantText(t, module(arg, pair(num(n), fst(num(n)))), "fun (arg)\nfun (pair (num "+want+") (fst (num "+want+")))\n")
		wantBack(t, module(num(n), pair(num(n), num(n))))
	}
}

func TestPrintRights(t *testing.T) {
	for k := range api.RAll + 1 {
		wantText(t, module(narrow(k, arg)), fmt.Sprintf("fun (narrow %d (arg))\n", k))
		wantBack(t, module(narrow(k, arg)))
	}
}

func TestPrintNames(t *testing.T) {
	for k := range api.MaxLets {
		m := module(inLets(api.MaxLets, name(k)))
		want := "fun " + strings.Repeat("(let (arg) ", api.MaxLets) + fmt.Sprintf("(var %d)", k) + strings.Repeat(")", api.MaxLets) + "\n"
		wantText(t, m, want)
		wantBack(t, m)
	}
}

func TestPrintFunctions(t *testing.T) {
	var m api.Module
	want := ""
	for i := range api.MaxFuncs {
		// A function may call one that stands behind it.
		k := api.MaxFuncs - 1 - i
		m.Funcs = append(m.Funcs, call(k, num(int64(i))))
		want += fmt.Sprintf("fun (call %d (num %d))\n", k, i)
	}
	wantText(t, m, want)
	wantBack(t, m)
	m.Funcs = append(m.Funcs, arg)
	wantFault(t, "one function more", m, fault(api.ErrMany, -1))
	for n := range 20 {
		if n >= 1 && n <= api.MaxFuncs {
			wantText(t, module(args(n)...), strings.Repeat("fun (arg)\n", n))
		} else {
			wantFault(t, fmt.Sprint(n, " functions"), module(args(n)...), fault(api.ErrMany, -1))
		}
	}
	wantFault(t, "nil", api.Module{Funcs: nil}, fault(api.ErrMany, -1))
	wantFault(t, "empty", api.Module{Funcs: []api.Expr{}}, fault(api.ErrMany, -1))
}

func TestPrintDepth(t *testing.T) {
	deepest := strings.Repeat("(fst ", api.MaxDeep) + "(arg)" + strings.Repeat(")", api.MaxDeep)
	wantText(t, module(inFst(api.MaxDeep, arg)), "fun "+deepest+"\n")
	wantText(t, module(none, inFst(api.MaxDeep, arg)), "fun (nil)\nfun "+deepest+"\n")
	wantBack(t, module(inFst(api.MaxDeep, arg), arg))
	wantFault(t, "too deep", module(inFst(api.MaxDeep+1, arg)), fault(api.ErrDeep, 0))
	wantFault(t, "too deep", module(arg, pair(arg, inFst(api.MaxDeep, arg)), arg), fault(api.ErrDeep, 1))
}

func TestPrintParts(t *testing.T) {
	for parts := 1; parts <= api.MaxParts; parts++ {
		wantText(t, module(sized(parts), none), "fun "+textOf(sized(parts))+"\nfun (nil)\n")
		wantBack(t, module(none, sized(parts)))
	}
	wantFault(t, "too many", module(sized(api.MaxParts+1)), fault(api.ErrMany, 0))
	wantFault(t, "too many", module(sized(api.MaxParts), none, sized(api.MaxParts+1)), fault(api.ErrMany, 2))
	all := slices.Repeat([]api.Expr{sized(api.MaxParts)}, api.MaxFuncs)
	wantText(t, module(all...), strings.Repeat("fun "+textOf(all[0])+"\n", api.MaxFuncs))
}

// leaves is how many numbers stand in a function of ofBytes, and frame what its text has beside their digits.
const (
	leaves = 79
	frame  = len("fun \n") + (leaves-1)/2*len("(if   )") + leaves*len("(num )")
)

// ofDigits tells a number that has so many, the sign counted as one: from 1 to 20.
func ofDigits(n int) int64 {
	if n == 20 {
		return -ofDigits(19)
	}
	number := int64(1)
	for range n - 1 {
		number *= 10
	}
	return number
}

// inIfs tells an expression of numbers in groups of three, as shallow as can be.
func inIfs(numbers []api.Expr) api.Expr {
	for len(numbers) > 1 {
		numbers = append(numbers[3:], of(api.EIf, numbers[0], numbers[1], numbers[2]))
	}
	return numbers[0]
}

// ofBytes tells a module of so many functions, with a text of so many bytes.
func ofBytes(t *testing.T, funcs, size int) api.Module {
	t.Helper()
	var m api.Module
	digits, left := size-funcs*frame, funcs*leaves
	for range funcs {
		var numbers []api.Expr
		for range leaves {
			numbers = append(numbers, num(ofDigits(digits/left)))
			digits -= digits / left
			left--
		}
		m.Funcs = append(m.Funcs, inIfs(numbers))
	}
	if f := code.Check(m); f.Code != 0 || len(reference(m)) != size {
		t.Fatalf("%d functions of %d bytes: they have %d, and the fault %v", funcs, size, len(reference(m)), f)
	}
	return m
}

func TestPrintLength(t *testing.T) {
	for funcs := 3; funcs <= api.MaxFuncs; funcs++ {
		for _, size := range []int{api.MaxText - 500, api.MaxText - 2, api.MaxText - 1, api.MaxText} {
			m := ofBytes(t, funcs, size)
			wantText(t, m, reference(m))
			wantBack(t, m)
		}
		for _, size := range []int{api.MaxText + 1, api.MaxText + 2, api.MaxText + 100, funcs * (frame + 20*leaves)} {
			wantFault(t, fmt.Sprint(size, " bytes"), ofBytes(t, funcs, size), fault(api.ErrMany, -1))
		}
	}
}

// What is behind the last bracket of a line counts, too.
func TestPrintLengthCountsTheLastByte(t *testing.T) {
	m := ofBytes(t, 5, api.MaxText-len("fun (arg)\n"))
	m.Funcs = append(m.Funcs, arg)
	wantText(t, m, reference(m))
	m.Funcs[5] = kept
	wantFault(t, "one byte more", m, fault(api.ErrMany, -1))
	m.Funcs[5] = none
	wantText(t, m, reference(m))
	m.Funcs = append([]api.Expr{kept}, m.Funcs[:5]...)
	wantFault(t, "one byte more", m, fault(api.ErrMany, -1))
}

// No function has a longer text: so many numbers, and so little beside them.
func TestPrintLongest(t *testing.T) {
	least := num(math.MinInt64)
	f := bin(api.KLess, inIfs(slices.Repeat([]api.Expr{least}, leaves)), least)
	for funcs := 1; funcs <= api.MaxFuncs; funcs++ {
		m := module(slices.Repeat([]api.Expr{f}, funcs)...)
		if funcs <= 2 {
			wantText(t, m, reference(m))
			wantBack(t, m)
		} else {
			wantFault(t, fmt.Sprint(funcs, " functions"), m, fault(api.ErrMany, -1))
		}
	}
}

// wrong are functions, and what code.Check tells of each.
var wrong = []struct {
	what string
	f    api.Expr
	code int
}{
	{"nothing", api.Expr{}, api.ErrKind},
	{"no kind", of(api.EKept + 1), api.ErrKind},
	{"below all kinds", of(-1, arg), api.ErrKind},
	{"a kind in its low bits", of(1<<32 + api.EArg), api.ErrKind},
	{"no kind, inside", pair(arg, fst(of(math.MinInt))), api.ErrKind},
	{"too few", of(api.EFst), api.ErrForm},
	{"too many in it", of(api.EPair, arg, arg, arg), api.ErrForm},
	{"one in it", of(api.EArg, arg), api.ErrForm},
	{"an N", api.Expr{Op: api.EArg, N: 1}, api.ErrForm},
	{"a K", api.Expr{Op: api.EArg, K: 1}, api.ErrForm},
	{"a number with a K", api.Expr{Op: api.ENum, K: 1}, api.ErrForm},
	{"no name", name(0), api.ErrRange},
	{"one name too far", let(arg, name(1)), api.ErrRange},
	{"a name below 0", let(arg, name(-1)), api.ErrRange},
	{"no arithmetic", bin(0, arg, arg), api.ErrRange},
	{"one arithmetic too far", bin(api.KEq+1, arg, arg), api.ErrRange},
	{"no rights", narrow(api.RAll+1, arg), api.ErrRange},
	{"rights below 0", narrow(-1, arg), api.ErrRange},
	{"no function", call(api.MaxFuncs, arg), api.ErrRange},
	{"a function below 0", call(-1, arg), api.ErrRange},
	{"too many names", inLets(api.MaxLets+1, arg), api.ErrMany},
	{"too many parts", sized(api.MaxParts + 1), api.ErrMany},
	{"too deep", inFst(api.MaxDeep+1, arg), api.ErrDeep},
	{"too deep by far", inFst(5000, arg), api.ErrDeep},
	{"shared too often", doubled(api.MaxDeep, arg), api.ErrMany},
	{"in itself", inSelf(1, api.EFst)[0], api.ErrDeep},
}

func TestPrintTellsTheFaultOfCheck(t *testing.T) {
	for _, c := range wrong {
		for funcs := 1; funcs <= api.MaxFuncs; funcs++ {
			for at := range funcs {
				m := module(args(funcs)...)
				m.Funcs[at] = c.f
				wantFault(t, c.what, m, fault(c.code, at))
				// That of an earlier function is told.
				for later := at + 1; later < funcs; later++ {
					m.Funcs[later] = fst(of(99))
					wantFault(t, c.what, m, fault(c.code, at))
				}
			}
		}
	}
}

func TestPrintTellsTheFaultOfCheckAheadOfTheLength(t *testing.T) {
	for _, c := range wrong {
		for at := range api.MaxFuncs {
			m := ofBytes(t, api.MaxFuncs, 2*api.MaxText)
			m.Funcs[at] = c.f
			wantFault(t, c.what, m, fault(c.code, at))
		}
	}
	m := ofBytes(t, api.MaxFuncs, 2*api.MaxText)
	m.Funcs = append(m.Funcs, of(99))
	wantFault(t, "one function more", m, fault(api.ErrMany, -1))
}

// deep is deeper than calls can be open, where the stack is small.
const deep = 300000

func smallStack(t *testing.T) {
	before := debug.SetMaxStack(1 << 20)
	t.Cleanup(func() { debug.SetMaxStack(before) })
}

func TestPrintEnds(t *testing.T) {
	smallStack(t)
	for i, f := range []api.Expr{
		inSelf(1, api.EFst)[0], inSelf(2, api.EPair)[0], inSelf(3, api.EIf)[1], inSelf(1000, 99)[0],
		inFst(deep, arg), inLets(deep, arg), doubled(200, arg), doubled(api.MaxDeep+1, arg),
	} {
		wantFault(t, fmt.Sprint(i), module(arg, f), fault(api.ErrDeep, 1))
	}
	wide := of(99, slices.Repeat([]api.Expr{of(99, args(1000)...)}, 1000)...)
	wantFault(t, "wide", module(wide), fault(api.ErrMany, 0))
	wantFault(t, "in itself", api.Module{Funcs: inSelf(2, api.EPair)}, fault(api.ErrDeep, 0))
	wantFault(t, "many functions", module(args(deep)...), fault(api.ErrMany, -1))
	wantFault(t, "many functions in themselves", api.Module{Funcs: inSelf(1000, api.EFst)}, fault(api.ErrMany, -1))
}

// What stands in memory once, and in the module more often, is printed as often.
func TestPrintSharedLists(t *testing.T) {
	shared := doubled(5, num(-3))
	wantText(t, module(shared, shared), reference(module(shared, shared)))
	wantBack(t, module(shared, shared))
	l := []api.Expr{num(1), num(2), num(3)}
	m := api.Module{Funcs: []api.Expr{{Op: api.EPair, L: l[:2]}, {Op: api.EPair, L: l[1:]}, {Op: api.EIf, L: l}, {Op: api.EFst, L: l[2:]}}}
	wantText(t, m, "fun (pair (num 1) (num 2))\nfun (pair (num 2) (num 3))\nfun (if (num 1) (num 2) (num 3))\nfun (fst (num 3))\n")
	// A function may have those ahead of it in it, in the same memory.
	steps := make([]api.Expr, 4)
	steps[0] = arg
	steps[1] = api.Expr{Op: api.EFst, L: steps[:1]}
	steps[2] = api.Expr{Op: api.EPair, L: steps[:2]}
	steps[3] = api.Expr{Op: api.EIf, L: steps[:3]}
	wantText(t, api.Module{Funcs: steps}, "fun (arg)\nfun (fst (arg))\nfun (pair (arg) (fst (arg)))\nfun (if (arg) (fst (arg)) (pair (arg) (fst (arg))))\n")
	wantBack(t, api.Module{Funcs: steps})
}

func TestPrintNilAndEmpty(t *testing.T) {
	for op, kind := range kinds {
		if kind.parts > 0 || op == api.EVar {
			continue
		}
		want := "fun " + textOf(of(op)) + "\n"
		wantText(t, module(api.Expr{Op: op, L: nil}), want)
		wantText(t, module(api.Expr{Op: op, L: []api.Expr{}}), want)
		wantText(t, module(api.Expr{Op: op, L: args(3)[:0]}), want)
	}
	wantText(t, module(let(arg, api.Expr{Op: api.EVar, L: []api.Expr{}})), "fun (let (arg) (var 0))\n")
}

// What lies behind a list's length is no part of it, and stays as it was.
func TestPrintLooksAtTheLengthAlone(t *testing.T) {
	all := func() []api.Expr { return append(args(2), slices.Repeat([]api.Expr{{Op: 99}}, 200)...) }
	l := all()
	wantText(t, module(api.Expr{Op: api.EPair, L: l[:2]}), "fun (pair (arg) (arg))\n")
	wantText(t, module(api.Expr{Op: api.EArg, L: l[:0]}), "fun (arg)\n")
	wantText(t, api.Module{Funcs: l[:2]}, "fun (arg)\nfun (arg)\n")
	wantFault(t, "no functions", api.Module{Funcs: l[:0]}, fault(api.ErrMany, -1))
	wantFault(t, "three in a pair", module(api.Expr{Op: api.EPair, L: l[:3]}), fault(api.ErrForm, 0))
	wantFault(t, "three functions", api.Module{Funcs: l[:3]}, fault(api.ErrKind, 2))
	if !reflect.DeepEqual(l, all()) {
		t.Error("what lies behind a list's length was changed")
	}
}

func TestPrintLeavesWhatIsHandedIn(t *testing.T) {
	for i := range 40 {
		made := func() api.Module { return randomModule(rand.New(rand.NewSource(int64(i)))) }
		m := made()
		before, f := Print(m)
		if !reflect.DeepEqual(m, made()) {
			t.Fatalf("%d: what was handed in was changed", i)
		}
		if again, g := Print(m); again != before || g != f {
			t.Fatalf("%d: asked again: %s with the fault %v, ahead %s with %v", i, told(again), g, told(before), f)
		}
		for j := range m.Funcs {
			m.Funcs[j] = num(int64(j))
		}
		if f.Code == 0 && before != reference(made()) {
			t.Fatalf("%d: a text was changed with the module", i)
		}
	}
	for _, c := range wrong {
		if c.code == api.ErrDeep || c.what == "shared too often" {
			continue
		}
		m := module(arg, c.f)
		own := code.Own(m)
		Print(m)
		if !code.Same(m, own) {
			t.Errorf("%s: what was handed in was changed", c.what)
		}
	}
}

// randomKind tells a kind that may stand where there is room for so many parts; where there is much, most often one of several.
func randomKind(r *rand.Rand, parts, open int) int {
	op := 1 + r.Intn(api.EKept)
	for kinds[op].parts >= parts || op == api.EVar && open == 0 || op == api.ELet && open == api.MaxLets || parts > 4 && kinds[op].parts < 2 && r.Intn(8) > 0 {
		op = 1 + r.Intn(api.EKept)
	}
	return op
}

// random tells an expression of at most so many parts, in which nothing is wrong.
func random(r *rand.Rand, parts, open, funcs int) api.Expr {
	op := randomKind(r, parts, open)
	e := api.Expr{Op: op}
	switch op {
	case api.ENum:
		e.N = int64(r.Uint64()) >> r.Intn(64)
	case api.EVar:
		e.K = r.Intn(open)
	case api.EBin:
		e.K = 1 + r.Intn(api.KEq)
	case api.ENarrow:
		e.K = r.Intn(api.RAll + 1)
	case api.ECall:
		e.K = r.Intn(funcs)
	}
	for i := range kinds[op].parts {
		here := open
		if op == api.ELet && i == 1 {
			here++
		}
		e.L = append(e.L, random(r, (parts-1)/kinds[op].parts, here, funcs))
	}
	return e
}

// randomModule tells a module in which nothing is wrong; of some the text is long, and of some of these too long.
func randomModule(r *rand.Rand) api.Module {
	if r.Intn(4) == 0 {
		return longModule(r)
	}
	var m api.Module
	funcs := 1 + r.Intn(api.MaxFuncs)
	for range funcs {
		m.Funcs = append(m.Funcs, random(r, 1+r.Intn(api.MaxParts), 0, funcs))
	}
	return m
}

// longModule tells a module with long numbers wherever one may stand.
func longModule(r *rand.Rand) api.Module {
	var m api.Module
	for range api.MaxFuncs {
		m.Funcs = append(m.Funcs, random(r, api.MaxParts, 0, api.MaxFuncs))
	}
	for _, e := range places(m.Funcs) {
		if len(e.L) == 0 {
			*e = num(int64(r.Uint64()))
		}
	}
	return m
}

// wantLines asks that a text is a line of each function, and that nothing but one blank stands between what stands in brackets.
func wantLines(t *testing.T, s string, funcs int) {
	t.Helper()
	if strings.Count(s, "\n") != funcs || !strings.HasSuffix(s, ")\n") {
		t.Fatalf("%s is not %d lines", told(s), funcs)
	}
	for _, line := range strings.Split(strings.TrimSuffix(s, "\n"), "\n") {
		if !strings.HasPrefix(line, "fun (") || !strings.HasSuffix(line, ")") || strings.Count(line, "fun") != 1 {
			t.Fatalf("%s is no line of a function", told(line))
		}
		if strings.ContainsAny(line, "\t\r") || strings.Contains(line, "  ") || strings.Contains(line, "( ") || strings.Contains(line, " )") || strings.Contains(line, ")(") {
			t.Fatalf("%s has other blanks than it should", told(line))
		}
	}
}

func TestPrintRandomModules(t *testing.T) {
	r := rand.New(rand.NewSource(3))
	long := 0
	for range 2000 {
		m := randomModule(r)
		if len(reference(m)) > api.MaxText {
			long++
			wantFault(t, "too long", m, fault(api.ErrMany, -1))
			continue
		}
		wantText(t, m, reference(m))
		wantBack(t, m)
		s, _ := Print(m)
		wantLines(t, s, len(m.Funcs))
	}
	if long < 20 || long > 1000 {
		t.Errorf("%d of 2000 modules have too long a text", long)
	}
}

// places tells all expressions in a list.
func places(l []api.Expr) []*api.Expr {
	var all []*api.Expr
	for i := range l {
		all = append(all, &l[i])
		all = append(all, places(l[i].L)...)
	}
	return all
}

// spoil changes one thing of one expression, a little.
func spoil(r *rand.Rand, e *api.Expr) {
	switch r.Intn(6) {
	case 0:
		e.Op += r.Intn(7) - 3
	case 1:
		e.K += r.Intn(5) - 2
	case 2:
		e.N += r.Int63n(3) - 1
	case 3:
		e.L = append(slices.Clone(e.L), arg)
	case 4:
		e.L = e.L[:len(e.L)/2]
	case 5:
		*e = inFst(r.Intn(api.MaxDeep), *e)
	}
}

// One expression is changed: then there is a fault, and no text, or the text is another one as often as the module is.
func TestPrintSpoiledModules(t *testing.T) {
	r := rand.New(rand.NewSource(4))
	met := map[int]int{}
	for range 5000 {
		m := randomModule(r)
		before, _ := Print(m)
		spoiled := code.Own(m)
		all := places(spoiled.Funcs)
		spoil(r, all[r.Intn(len(all))])
		f := code.Check(spoiled)
		if f.Code == 0 && len(reference(spoiled)) > api.MaxText {
			f = fault(api.ErrMany, -1)
		}
		met[f.Code]++
		if f.Code != 0 {
			wantFault(t, told(reference(spoiled)), spoiled, f)
			continue
		}
		wantText(t, spoiled, reference(spoiled))
		wantBack(t, spoiled)
		if after, _ := Print(spoiled); before != "" && (after == before) != code.Same(m, spoiled) {
			t.Fatalf("%s and %s: of modules that are the same: %v", told(before), told(after), code.Same(m, spoiled))
		}
	}
	for _, code := range []int{0, api.ErrKind, api.ErrForm, api.ErrRange, api.ErrMany, api.ErrDeep} {
		if met[code] < 20 {
			t.Errorf("the code %d was met %d times only: %v", code, met[code], met)
		}
	}
}

// small tells many expressions of so many parts, where so many names are open.
func small(parts, open int) []api.Expr {
	var all []api.Expr
	switch parts {
	case 1:
		all = []api.Expr{none, arg, kept, num(0), num(1), num(10), num(-1)}
		for k := range open {
			all = append(all, name(k))
		}
	case 2:
		for _, e := range small(1, open) {
			all = append(all, fst(e), of(api.ESnd, e), of(api.ERead, e), of(api.EKeep, e), narrow(0, e), narrow(1, e), narrow(10, e), call(0, e))
		}
	default:
		for _, e := range small(parts-1, open) {
			all = append(all, fst(e), narrow(1, e))
		}
		for left := 1; left < parts-1; left++ {
			for _, a := range small(left, open) {
				for _, b := range small(parts-1-left, open) {
					all = append(all, pair(a, b), of(api.EWrite, a, b), bin(api.KAdd, a, b), bin(api.KEq, a, b))
				}
				for _, b := range small(parts-1-left, open+1) {
					all = append(all, let(a, b))
				}
			}
		}
	}
	return all
}

// No two of many small modules have the same text.
func TestPrintAllSmallModules(t *testing.T) {
	var modules []api.Module
	for parts := 1; parts <= 4; parts++ {
		for _, e := range small(parts, 0) {
			modules = append(modules, module(e))
		}
	}
	few := slices.Concat(small(1, 0), small(2, 0), small(3, 0)[:40])
	for _, a := range few {
		for _, b := range few {
			modules = append(modules, module(a, b))
		}
	}
	met := map[string]api.Module{}
	for _, m := range modules {
		wantText(t, m, reference(m))
		wantBack(t, m)
		s, _ := Print(m)
		if other, ok := met[s]; ok {
			t.Errorf("%v and %v: the same text %s", m, other, told(s))
		}
		met[s] = m
	}
	if len(met) < 5000 {
		t.Errorf("%d modules only", len(met))
	}
}
