package compile

import (
	"fmt"
	"math"
	"math/rand"
	"reflect"
	"runtime/debug"
	"slices"
	"strings"
	"testing"

	"letterlock/api"
	"letterlock/code"
)

// parts tells of each kind how many expressions it has in it, as the document does.
var parts = map[int]int{
	api.ENil: 0, api.ENum: 0, api.EArg: 0, api.EVar: 0, api.ELet: 2, api.EBin: 2, api.EIf: 3, api.EPair: 2,
	api.EFst: 1, api.ESnd: 1, api.ESeal: 1, api.EOpen: 1, api.ERead: 1, api.EWrite: 2, api.ENarrow: 1, api.EWrap: 1,
	api.ECut: 1, api.ECall: 1, api.EAsk: 2, api.EKeep: 1, api.EKept: 0,
}

var (
	arg  = api.Expr{Op: api.EArg}
	none = api.Expr{Op: api.ENil}
	kept = api.Expr{Op: api.EKept}
)

func num(n int64) api.Expr                { return api.Expr{Op: api.ENum, N: n} }
func name(k int) api.Expr                 { return api.Expr{Op: api.EVar, K: k} }
func of(op int, l ...api.Expr) api.Expr   { return api.Expr{Op: op, L: l} }
func fst(e api.Expr) api.Expr             { return of(api.EFst, e) }
func pair(a, b api.Expr) api.Expr         { return of(api.EPair, a, b) }
func let(a, b api.Expr) api.Expr          { return of(api.ELet, a, b) }
func choice(a, b, c api.Expr) api.Expr    { return of(api.EIf, a, b, c) }
func bin(k int, a, b api.Expr) api.Expr   { return api.Expr{Op: api.EBin, K: k, L: []api.Expr{a, b}} }
func narrow(k int, e api.Expr) api.Expr   { return api.Expr{Op: api.ENarrow, K: k, L: []api.Expr{e}} }
func call(k int, e api.Expr) api.Expr     { return api.Expr{Op: api.ECall, K: k, L: []api.Expr{e}} }
func module(funcs ...api.Expr) api.Module { return api.Module{Funcs: funcs} }
func fault(code, at int) api.Fault        { return api.Fault{Code: code, At: at} }
func args(n int) []api.Expr               { return slices.Repeat([]api.Expr{arg}, n) }

func wrapped(depth int, e api.Expr, in func(api.Expr) api.Expr) api.Expr {
	for range depth {
		e = in(e)
	}
	return e
}

func inFst(depth int, e api.Expr) api.Expr { return wrapped(depth, e, fst) }

func inLets(depth int, e api.Expr) api.Expr {
	return wrapped(depth, e, func(e api.Expr) api.Expr { return let(arg, e) })
}

// doubled tells an expression of which every list stands in memory once, and is there twice as often as that around it.
func doubled(depth int, e api.Expr) api.Expr {
	return wrapped(depth, e, func(e api.Expr) api.Expr { return pair(e, e) })
}

// inSelf tells a list of so many expressions, each of which has that list in it.
func inSelf(size, op int) []api.Expr {
	l := make([]api.Expr, size)
	for i := range l {
		l[i] = of(op, l...)
	}
	return l
}

// sized tells an expression of so many parts that is not deep.
func sized(parts int) api.Expr {
	switch parts {
	case 1:
		return arg
	case 2:
		return fst(arg)
	}
	left := (parts - 1) / 2
	return pair(sized(left), sized(parts-1-left))
}

// written tells instructions as words that are short to write in a test: their number, and K and N where there are such.
func written(l []Ins) string {
	var words []string
	for _, i := range l {
		w := fmt.Sprint(i.Op)
		if i.K != 0 {
			w += fmt.Sprint("k", i.K)
		}
		if i.N != 0 {
			w += fmt.Sprint("n", i.N)
		}
		words = append(words, w)
	}
	return strings.Join(words, " ")
}

// placed makes numbers of the places in such words: "a:" is the place of the word behind it, and "103>a" names it.
func placed(text string) string {
	var words []string
	at := map[string]int{}
	for _, w := range strings.Fields(text) {
		if label, ok := strings.CutSuffix(w, ":"); ok {
			at[label] = len(words)
		} else {
			words = append(words, w)
		}
	}
	for i, w := range words {
		if op, label, ok := strings.Cut(w, ">"); ok {
			words[i] = fmt.Sprint(op, "k", at[label])
		}
	}
	return strings.Join(words, " ")
}

// wantWritten asks for the instructions of each function, in words as written and placed tell them.
func wantWritten(t *testing.T, m api.Module, want ...string) {
	t.Helper()
	l, f := Make(m)
	if f != (api.Fault{}) || len(l) != len(want) {
		t.Errorf("%v: %d lists and the fault %v, want %d lists", m, len(l), f, len(want))
		return
	}
	for i := range l {
		if got := written(l[i]); got != placed(want[i]) {
			t.Errorf("%v: function %d: %s, want %s", m, i, got, placed(want[i]))
		}
	}
}

// reference tells the instructions of an expression, where those that go elsewhere tell how far; absolute makes places of that.
func reference(e api.Expr) []Ins {
	var in [][]Ins
	for _, inner := range e.L {
		in = append(in, reference(inner))
	}
	tick := []Ins{{OTick, 0, 0}}
	switch e.Op {
	case api.ELet:
		return slices.Concat(tick, in[0], []Ins{{OBind, 0, 0}}, in[1], []Ins{{ODrop, 0, 0}})
	case api.EIf:
		return slices.Concat(tick, in[0], []Ins{{OElse, len(in[1]) + 2, 0}}, in[1], []Ins{{OJump, len(in[2]) + 1, 0}}, in[2])
	}
	return slices.Concat(tick, slices.Concat(in...), []Ins{{e.Op, e.K, e.N}})
}

func absolute(l []Ins) []Ins {
	for i := range l {
		if l[i].Op == OElse || l[i].Op == OJump {
			l[i].K += i
		}
	}
	return l
}

func wantReference(t *testing.T, m api.Module) {
	t.Helper()
	l, f := Make(m)
	if f != (api.Fault{}) || len(l) != len(m.Funcs) {
		t.Fatalf("%v: %d lists and the fault %v", m, len(l), f)
	}
	for i := range l {
		if want := absolute(append(reference(m.Funcs[i]), Ins{Op: OBack})); !slices.Equal(l[i], want) {
			t.Fatalf("%v: function %d: %s, want %s", m, i, written(l[i]), written(want))
		}
	}
}

func wantFault(t *testing.T, what string, m api.Module, want api.Fault) {
	t.Helper()
	l, f := Make(m)
	if f != want {
		t.Errorf("%s: the fault %v, want %v", what, f, want)
	}
	if len(l) != 0 {
		t.Errorf("%s: %d lists with the fault %v", what, len(l), f)
	}
}

func TestFace(t *testing.T) {
	if got := []int{OTick, OBind, ODrop, OElse, OJump, OBack}; !slices.Equal(got, []int{100, 101, 102, 103, 104, 105}) {
		t.Errorf("the instructions have the numbers %v", got)
	}
	var make func(api.Module) ([][]Ins, api.Fault) = Make
	l, _ := make(module(num(math.MinInt64)))
	if want := [][]Ins{{{Op: 100}, {Op: 2, K: 0, N: math.MinInt64}, {Op: 105}}}; !reflect.DeepEqual(l, want) {
		t.Errorf("%v, want %v", l, want)
	}
}

func TestMakeEveryKind(t *testing.T) {
	met := map[int]bool{}
	for want, e := range map[string]api.Expr{
		"100 1":                   none,
		"100 2n7":                 num(7),
		"100 2":                   num(0),
		"100 3":                   arg,
		"100 100 1 101 100 4 102": let(none, name(0)),
		"100 100 3 101 100 100 1 101 100 4k1 102 102": let(arg, let(none, name(1))),
		"100 100 3 100 2n1 6k2":                       bin(api.KSub, arg, num(1)),
		"100 100 3 103>a 100 1 104>b a: 100 21 b:":    choice(arg, none, kept),
		"100 100 2n1 100 2n2 8":                       pair(num(1), num(2)),
		"100 100 3 9":                                 fst(arg),
		"100 100 3 10":                                of(api.ESnd, arg),
		"100 100 3 11":                                of(api.ESeal, arg),
		"100 100 3 12":                                of(api.EOpen, arg),
		"100 100 3 13":                                of(api.ERead, arg),
		"100 100 3 100 2n5 14":                        of(api.EWrite, arg, num(5)),
		"100 100 3 15k5":                              narrow(5, arg),
		"100 100 3 15":                                narrow(0, arg),
		"100 100 3 16":                                of(api.EWrap, arg),
		"100 100 100 100 3 16 10 17":                  of(api.ECut, of(api.ESnd, of(api.EWrap, arg))),
		"100 100 3 18":                                call(0, arg),
		"100 100 3 100 2n4 19":                        of(api.EAsk, arg, num(4)),
		"100 100 3 20":                                of(api.EKeep, arg),
		"100 21":                                      kept,
		"100 100 100 3 15k1 13":                       of(api.ERead, narrow(1, arg)),
		"100 100 100 1 100 3 8 100 21 8":              pair(pair(none, arg), kept),
		"100 100 1 100 100 3 100 21 8 8":              pair(none, pair(arg, kept)),
	} {
		met[e.Op] = true
		want += " 105"
		wantWritten(t, module(e), want)
		// The places that are named are those of the function by itself, whatever stands ahead of it and behind it.
		wantWritten(t, module(arg, e), "100 3 105", want)
		wantWritten(t, module(e, none), want, "100 1 105")
		wantWritten(t, module(e, e, e), want, want, want)
		wantReference(t, module(e, arg, e))
	}
	// A name stands where one is open alone.
	if len(met) != len(parts)-1 || met[api.EVar] || len(parts) != api.EKept {
		t.Errorf("%d of %d kinds were met", len(met), len(parts))
	}
}

func TestMakeEveryArithmetic(t *testing.T) {
	for k := api.KAdd; k <= api.KEq; k++ {
		wantWritten(t, module(bin(k, num(3), arg)), fmt.Sprintf("100 100 2n3 100 3 6k%d 105", k))
		wantWritten(t, module(bin(k, bin(api.KAdd, arg, none), kept)), fmt.Sprintf("100 100 100 3 100 1 6k1 100 21 6k%d 105", k))
	}
}

func TestMakeNumbers(t *testing.T) {
	for _, n := range []int64{0, 1, -1, 9, -9, 100, 105, 1 << 31, -1 << 31, 1 << 32, 1<<53 + 1, math.MaxInt64, math.MinInt64, math.MaxInt64 - 1, math.MinInt64 + 1} {
		l, f := Make(module(arg, pair(num(n), num(-7))))
		want := []Ins{{Op: OTick}, {Op: OTick}, {Op: api.ENum, N: n}, {Op: OTick}, {Op: api.ENum, N: -7}, {Op: api.EPair}, {Op: OBack}}
		if f.Code != 0 || !slices.Equal(l[1], want) {
			t.Errorf("%d: %v and the fault %v, want %v", n, l, f, want)
		}
	}
}

func TestMakeRights(t *testing.T) {
	for k := range api.RAll + 1 {
		l, f := Make(module(narrow(k, arg)))
		want := [][]Ins{{{Op: OTick}, {Op: OTick}, {Op: api.EArg}, {Op: api.ENarrow, K: k}, {Op: OBack}}}
		if f.Code != 0 || !reflect.DeepEqual(l, want) {
			t.Errorf("%d: %v and the fault %v, want %v", k, l, f, want)
		}
	}
}

func TestMakeNames(t *testing.T) {
	for k := range api.MaxLets {
		l, f := Make(module(inLets(api.MaxLets, name(k))))
		var want []Ins
		for range api.MaxLets {
			want = append(want, Ins{Op: OTick}, Ins{Op: OTick}, Ins{Op: api.EArg}, Ins{Op: OBind})
		}
		want = append(want, Ins{Op: OTick}, Ins{Op: api.EVar, K: k})
		want = append(want, slices.Repeat([]Ins{{Op: ODrop}}, api.MaxLets)...)
		want = append(want, Ins{Op: OBack})
		if f.Code != 0 || !slices.Equal(l[0], want) {
			t.Errorf("the name %d: %v and the fault %v, want %v", k, l, f, want)
		}
	}
	wantFault(t, "one let more", module(inLets(api.MaxLets+1, arg)), fault(api.ErrMany, 0))
}

func TestMakeLetsInLets(t *testing.T) {
	one := let(num(1), name(0))
	wantWritten(t, module(let(one, none)), "100 100 100 2n1 101 100 4 102 101 100 1 102 105")
	wantWritten(t, module(let(none, one)), "100 100 1 101 100 100 2n1 101 100 4 102 102 105")
	wantWritten(t, module(let(one, one)), "100 100 100 2n1 101 100 4 102 101 100 100 2n1 101 100 4 102 102 105")
	wantWritten(t, module(let(let(one, name(0)), kept)), "100 100 100 100 2n1 101 100 4 102 101 100 4 102 101 100 21 102 105")
}

func TestMakeIfsInIfs(t *testing.T) {
	one := choice(num(1), num(2), num(3))
	wantWritten(t, module(one), "100 100 2n1 103k7 100 2n2 104k9 100 2n3 105")
	wantWritten(t, module(choice(one, none, kept)),
		"100 100 100 2n1 103>a 100 2n2 104>b a: 100 2n3 b: 103>c 100 1 104>d c: 100 21 d: 105")
	wantWritten(t, module(choice(none, one, kept)),
		"100 100 1 103>c 100 100 2n1 103>a 100 2n2 104>b a: 100 2n3 b: 104>d c: 100 21 d: 105")
	wantWritten(t, module(choice(none, kept, one)),
		"100 100 1 103>a 100 21 104>d a: 100 100 2n1 103>b 100 2n2 104>d b: 100 2n3 d: 105")
	wantWritten(t, module(arg, choice(choice(choice(none, arg, kept), arg, kept), arg, kept)), "100 3 105",
		"100 100 100 100 1 103>a 100 3 104>b a: 100 21 b: 103>c 100 3 104>d c: 100 21 d: 103>e 100 3 104>f e: 100 21 f: 105")
	wantWritten(t, module(choice(one, one, one)), "100 "+
		"100 100 2n1 103>a 100 2n2 104>b a: 100 2n3 b: 103>e "+
		"100 100 2n1 103>c 100 2n2 104>d c: 100 2n3 d: 104>g "+
		"e: 100 100 2n1 103>f 100 2n2 104>g f: 100 2n3 g: 105")
}

func TestMakeIfsInOthersAndOthersInIfs(t *testing.T) {
	one := choice(num(1), num(2), num(3))
	wantWritten(t, module(let(one, name(0))), "100 100 100 2n1 103>a 100 2n2 104>b a: 100 2n3 b: 101 100 4 102 105")
	wantWritten(t, module(let(arg, one)), "100 100 3 101 100 100 2n1 103>a 100 2n2 104>b a: 100 2n3 b: 102 105")
	l := let(num(4), name(0))
	wantWritten(t, module(choice(l, none, kept)), "100 100 100 2n4 101 100 4 102 103>a 100 1 104>b a: 100 21 b: 105")
	wantWritten(t, module(choice(none, l, kept)), "100 100 1 103>a 100 100 2n4 101 100 4 102 104>b a: 100 21 b: 105")
	wantWritten(t, module(choice(none, kept, l)), "100 100 1 103>a 100 21 104>b a: 100 100 2n4 101 100 4 102 b: 105")
	wantWritten(t, module(fst(one)), "100 100 100 2n1 103>a 100 2n2 104>b a: 100 2n3 b: 9 105")
	wantWritten(t, module(pair(arg, one)), "100 100 3 100 100 2n1 103>a 100 2n2 104>b a: 100 2n3 b: 8 105")
	wantWritten(t, module(pair(one, l)), "100 100 100 2n1 103>a 100 2n2 104>b a: 100 2n3 b: 100 100 2n4 101 100 4 102 8 105")
	wantWritten(t, module(narrow(3, l)), "100 100 100 2n4 101 100 4 102 15k3 105")
	for op, n := range parts {
		for i := range n {
			for _, inner := range []api.Expr{one, l, choice(l, one, l), let(one, one), choice(one, l, let(l, one))} {
				e := of(op, args(n)...)
				if op == api.EBin {
					e.K = api.KMul
				}
				e.L[i] = inner
				wantReference(t, module(e))
				wantReference(t, module(one, e, let(e, e), choice(e, e, e)))
			}
		}
	}
}

func TestMakeFunctions(t *testing.T) {
	var m api.Module
	var want []string
	for i := range api.MaxFuncs {
		// A function may call one that stands behind it.
		m.Funcs = append(m.Funcs, call(api.MaxFuncs-1-i, num(int64(i+1))))
		want = append(want, strings.Replace(fmt.Sprintf("100 100 2n%d 18k%d 105", i+1, api.MaxFuncs-1-i), "k0", "", 1))
	}
	wantWritten(t, m, want...)
	m.Funcs = append(m.Funcs, arg)
	wantFault(t, "one function more", m, fault(api.ErrMany, -1))
	for n := range 20 {
		if n >= 1 && n <= api.MaxFuncs {
			wantWritten(t, module(args(n)...), slices.Repeat([]string{"100 3 105"}, n)...)
		} else {
			wantFault(t, fmt.Sprint(n, " functions"), module(args(n)...), fault(api.ErrMany, -1))
		}
	}
	wantFault(t, "nil", api.Module{Funcs: nil}, fault(api.ErrMany, -1))
	wantFault(t, "empty", api.Module{Funcs: []api.Expr{}}, fault(api.ErrMany, -1))
}

func TestMakeDepth(t *testing.T) {
	deepest := strings.Repeat("100 ", api.MaxDeep) + "100 3" + strings.Repeat(" 9", api.MaxDeep) + " 105"
	wantWritten(t, module(inFst(api.MaxDeep, arg)), deepest)
	wantWritten(t, module(none, inFst(api.MaxDeep, arg)), "100 1 105", deepest)
	for place := range 3 {
		ifs := func(depth int) api.Expr {
			return wrapped(depth, kept, func(e api.Expr) api.Expr {
				l := args(3)
				l[place] = e
				return of(api.EIf, l...)
			})
		}
		wantReference(t, module(ifs(api.MaxDeep)))
		wantReference(t, module(arg, ifs(api.MaxDeep-1), ifs(api.MaxDeep)))
		wantFault(t, "too deep", module(ifs(api.MaxDeep), ifs(api.MaxDeep+1)), fault(api.ErrDeep, 1))
	}
	wantFault(t, "too deep", module(inFst(api.MaxDeep+1, arg)), fault(api.ErrDeep, 0))
	wantFault(t, "too deep", module(arg, pair(arg, inFst(api.MaxDeep, arg)), arg), fault(api.ErrDeep, 1))
}

func TestMakeParts(t *testing.T) {
	for n := 1; n <= api.MaxParts; n++ {
		wantReference(t, module(sized(n), none))
		if l, _ := Make(module(none, sized(n))); len(l) != 2 || len(l[1]) != 2*n+1 {
			t.Errorf("%d parts: %v", n, l)
		}
	}
	wantFault(t, "too many", module(sized(api.MaxParts+1)), fault(api.ErrMany, 0))
	wantFault(t, "too many", module(sized(api.MaxParts), none, sized(api.MaxParts+1)), fault(api.ErrMany, 2))
	wantReference(t, module(slices.Repeat([]api.Expr{sized(api.MaxParts)}, api.MaxFuncs)...))
}

// wrong are functions, and what code.Check tells of each.
var wrong = []struct {
	what string
	f    api.Expr
	code int
}{
	{"nothing", api.Expr{}, api.ErrKind},
	{"no kind", of(api.EKept + 1), api.ErrKind},
	{"an instruction", of(OTick), api.ErrKind},
	{"an instruction, inside", fst(of(OBack)), api.ErrKind},
	{"below all kinds", of(-1, arg), api.ErrKind},
	{"a kind in its low bits", of(1<<32 + api.EArg), api.ErrKind},
	{"no kind, inside", pair(arg, fst(of(math.MinInt))), api.ErrKind},
	{"too few", of(api.EFst), api.ErrForm},
	{"no let", of(api.ELet), api.ErrForm},
	{"half a let", of(api.ELet, arg), api.ErrForm},
	{"an if without else", of(api.EIf, arg, arg), api.ErrForm},
	{"four in an if", of(api.EIf, args(4)...), api.ErrForm},
	{"too many in it", of(api.EPair, arg, arg, arg), api.ErrForm},
	{"one in it", of(api.EArg, arg), api.ErrForm},
	{"an N", api.Expr{Op: api.EArg, N: 1}, api.ErrForm},
	{"a K", api.Expr{Op: api.EArg, K: 1}, api.ErrForm},
	{"a let with a K", api.Expr{Op: api.ELet, K: 1, L: args(2)}, api.ErrForm},
	{"an if with an N", api.Expr{Op: api.EIf, N: -1, L: args(3)}, api.ErrForm},
	{"a number with a K", api.Expr{Op: api.ENum, K: 1}, api.ErrForm},
	{"no name", name(0), api.ErrRange},
	{"one name too far", let(arg, name(1)), api.ErrRange},
	{"a name in its own value", let(name(0), arg), api.ErrRange},
	{"a name below 0", let(arg, name(-1)), api.ErrRange},
	{"no arithmetic", bin(0, arg, arg), api.ErrRange},
	{"one arithmetic too far", bin(api.KEq+1, arg, arg), api.ErrRange},
	{"no rights", narrow(api.RAll+1, arg), api.ErrRange},
	{"rights below 0", narrow(-1, arg), api.ErrRange},
	{"no function", call(api.MaxFuncs, arg), api.ErrRange},
	{"a function below 0", call(-1, arg), api.ErrRange},
	{"too many names", inLets(api.MaxLets+1, arg), api.ErrMany},
	{"too many parts", sized(api.MaxParts + 1), api.ErrMany},
	{"too deep", inFst(api.MaxDeep+1, arg), api.ErrDeep},
	{"too deep by far", inFst(5000, arg), api.ErrDeep},
	{"shared too often", doubled(api.MaxDeep, arg), api.ErrMany},
	{"in itself", inSelf(1, api.EFst)[0], api.ErrDeep},
}

func TestMakeTellsTheFaultOfCheck(t *testing.T) {
	for _, c := range wrong {
		for funcs := 1; funcs <= api.MaxFuncs; funcs++ {
			for at := range funcs {
				m := module(args(funcs)...)
				m.Funcs[at] = c.f
				wantFault(t, c.what, m, fault(c.code, at))
				// That of an earlier function is told.
				for later := at + 1; later < funcs; later++ {
					m.Funcs[later] = fst(of(99))
					wantFault(t, c.what, m, fault(c.code, at))
				}
			}
		}
	}
	// How many functions there are is told ahead of what is in them.
	for _, c := range wrong {
		wantFault(t, c.what, module(append(args(api.MaxFuncs), c.f)...), fault(api.ErrMany, -1))
		wantFault(t, c.what, module(append([]api.Expr{c.f}, args(api.MaxFuncs)...)...), fault(api.ErrMany, -1))
	}
}

// deep is deeper than calls can be open, where the stack is small.
const deep = 300000

func smallStack(t *testing.T) {
	before := debug.SetMaxStack(1 << 20)
	t.Cleanup(func() { debug.SetMaxStack(before) })
}

func TestMakeEnds(t *testing.T) {
	smallStack(t)
	for i, f := range []api.Expr{
		inSelf(1, api.EFst)[0], inSelf(2, api.EPair)[0], inSelf(2, api.ELet)[1], inSelf(3, api.EIf)[1], inSelf(1000, 99)[0],
		inFst(deep, arg), inLets(deep, arg), doubled(200, arg), doubled(api.MaxDeep+1, arg),
		wrapped(deep, arg, func(e api.Expr) api.Expr { return choice(e, arg, arg) }),
	} {
		wantFault(t, fmt.Sprint(i), module(arg, f), fault(api.ErrDeep, 1))
	}
	wide := of(99, slices.Repeat([]api.Expr{of(99, args(1000)...)}, 1000)...)
	wantFault(t, "wide", module(wide), fault(api.ErrMany, 0))
	wantFault(t, "in itself", api.Module{Funcs: inSelf(2, api.EPair)}, fault(api.ErrDeep, 0))
	wantFault(t, "many functions", module(args(deep)...), fault(api.ErrMany, -1))
	wantFault(t, "many functions in themselves", api.Module{Funcs: inSelf(1000, api.EFst)}, fault(api.ErrMany, -1))
}

// What stands in memory once, and in the module more often, has its instructions as often.
func TestMakeSharedLists(t *testing.T) {
	shared := doubled(4, num(-3))
	wantReference(t, module(shared, shared))
	wantReference(t, module(choice(shared, fst(arg), shared), let(shared, name(0))))
	l := []api.Expr{num(1), num(2), num(3)}
	m := api.Module{Funcs: []api.Expr{{Op: api.EPair, L: l[:2]}, {Op: api.EPair, L: l[1:]}, {Op: api.EIf, L: l}, {Op: api.EFst, L: l[2:]}}}
	wantWritten(t, m, "100 100 2n1 100 2n2 8 105", "100 100 2n2 100 2n3 8 105", "100 100 2n1 103k7 100 2n2 104k9 100 2n3 105", "100 100 2n3 9 105")
	// A function may have those ahead of it in it, in the same memory.
	steps := make([]api.Expr, 4)
	steps[0] = arg
	steps[1] = api.Expr{Op: api.EFst, L: steps[:1]}
	steps[2] = api.Expr{Op: api.ELet, L: steps[:2]}
	steps[3] = api.Expr{Op: api.EIf, L: steps[:3]}
	wantWritten(t, api.Module{Funcs: steps}, "100 3 105", "100 100 3 9 105", "100 100 3 101 100 100 3 9 102 105",
		"100 100 3 103>a 100 100 3 9 104>b a: 100 100 3 101 100 100 3 9 102 b: 105")
}

func TestMakeNilAndEmpty(t *testing.T) {
	for op, n := range parts {
		if n > 0 || op == api.EVar {
			continue
		}
		want := fmt.Sprintf("100 %d 105", op)
		wantWritten(t, module(api.Expr{Op: op, L: nil}), want)
		wantWritten(t, module(api.Expr{Op: op, L: []api.Expr{}}), want)
		wantWritten(t, module(api.Expr{Op: op, L: args(3)[:0]}), want)
	}
	wantWritten(t, module(let(arg, api.Expr{Op: api.EVar, L: []api.Expr{}})), "100 100 3 101 100 4 102 105")
}

// What lies behind a list's length is no part of it, and stays as it was.
func TestMakeLooksAtTheLengthAlone(t *testing.T) {
	all := func() []api.Expr { return append(args(3), slices.Repeat([]api.Expr{{Op: 99}}, 200)...) }
	l := all()
	wantWritten(t, module(api.Expr{Op: api.EPair, L: l[:2]}), "100 100 3 100 3 8 105")
	wantWritten(t, module(api.Expr{Op: api.ELet, L: l[:2]}), "100 100 3 101 100 3 102 105")
	wantWritten(t, module(api.Expr{Op: api.EIf, L: l[:3]}), "100 100 3 103k7 100 3 104k9 100 3 105")
	wantWritten(t, module(api.Expr{Op: api.EArg, L: l[:0]}), "100 3 105")
	wantWritten(t, api.Module{Funcs: l[:2]}, "100 3 105", "100 3 105")
	wantFault(t, "no functions", api.Module{Funcs: l[:0]}, fault(api.ErrMany, -1))
	wantFault(t, "three in a pair", module(api.Expr{Op: api.EPair, L: l[:3]}), fault(api.ErrForm, 0))
	wantFault(t, "two in an if", module(api.Expr{Op: api.EIf, L: l[:2]}), fault(api.ErrForm, 0))
	wantFault(t, "four functions", api.Module{Funcs: l[:4]}, fault(api.ErrKind, 3))
	if !reflect.DeepEqual(l, all()) {
		t.Error("what lies behind a list's length was changed")
	}
}

func TestMakeLeavesWhatIsHandedIn(t *testing.T) {
	for i := range 100 {
		made := func() api.Module { return randomModule(rand.New(rand.NewSource(int64(i)))) }
		m := made()
		before, f := Make(m)
		if !reflect.DeepEqual(m, made()) {
			t.Fatalf("%d: what was handed in was changed", i)
		}
		if again, g := Make(m); !reflect.DeepEqual(again, before) || g != f {
			t.Fatalf("%d: asked again: %v with the fault %v, ahead %v with %v", i, again, g, before, f)
		}
		for _, e := range places(m.Funcs) {
			*e = num(5)
		}
		if again, g := Make(made()); !reflect.DeepEqual(again, before) || g != f {
			t.Fatalf("%d: instructions were changed with the module", i)
		}
	}
	for _, c := range wrong {
		if c.code == api.ErrDeep || c.what == "shared too often" {
			continue
		}
		m := module(arg, c.f)
		own := code.Own(m)
		Make(m)
		if !code.Same(m, own) {
			t.Errorf("%s: what was handed in was changed", c.what)
		}
	}
}

// Each list is overwritten, with what lies behind its length: no other one, and no later answer, may see that.
func TestMakeAnswersNewMemory(t *testing.T) {
	r := rand.New(rand.NewSource(2))
	for range 200 {
		m := randomModule(r)
		if r.Intn(2) == 0 {
			m.Funcs = slices.Repeat(m.Funcs[:1], len(m.Funcs))
			m = code.Own(m)
			for _, e := range places(m.Funcs) {
				if e.Op == api.ECall {
					e.K = 0
				}
			}
		}
		first, _ := Make(m)
		second, _ := Make(m)
		for i := range first {
			rest := first[i][:cap(first[i])]
			for j := range rest {
				rest[j] = Ins{Op: -1 - i}
			}
		}
		for i := range first {
			for _, ins := range first[i] {
				if ins.Op != -1-i {
					t.Fatalf("%v: two lists of one answer share memory", m)
				}
			}
		}
		third, _ := Make(m)
		if !reflect.DeepEqual(second, third) {
			t.Fatalf("%v: two answers share memory", m)
		}
		lists := first[:cap(first)]
		for i := range lists {
			lists[i] = nil
		}
		wantReference(t, m)
	}
}

// reader makes an expression of instructions again.
type reader struct {
	t    *testing.T
	list []Ins
	at   int
}

func (r *reader) next() Ins {
	r.t.Helper()
	if r.at >= len(r.list) {
		r.t.Fatalf("%s ends too early", written(r.list))
	}
	r.at++
	return r.list[r.at-1]
}

// expr reads what stands between an OTick and the end of its expression: all of that but the OTick comes in the order of a stack.
func (r *reader) expr() api.Expr {
	r.t.Helper()
	if i := r.next(); i != (Ins{Op: OTick}) {
		r.t.Fatalf("%v stands where an expression begins: %s", i, written(r.list))
	}
	var l []api.Expr
	for {
		if r.at < len(r.list) && r.list[r.at].Op == OTick {
			l = append(l, r.expr())
			continue
		}
		switch i := r.next(); i.Op {
		case OBind:
			e := let(l[0], r.expr())
			if end := r.next(); i != (Ins{Op: OBind}) || end != (Ins{Op: ODrop}) || len(l) != 1 {
				r.t.Fatalf("%v and %v around a name: %s", i, end, written(r.list))
			}
			return e
		case OElse:
			yes := r.expr()
			jump := r.next()
			if jump.Op != OJump || jump.N != 0 || i.N != 0 || i.K != r.at || len(l) != 1 {
				r.t.Fatalf("%v and %v at %d: %s", i, jump, r.at, written(r.list))
			}
			no := r.expr()
			if jump.K != r.at {
				r.t.Fatalf("%v, where the end is %d: %s", jump, r.at, written(r.list))
			}
			return choice(l[0], yes, no)
		default:
			return api.Expr{Op: i.Op, K: i.K, N: i.N, L: l}
		}
	}
}

// wantBack asks that a module can be made of the instructions again.
func wantBack(t *testing.T, m api.Module) {
	t.Helper()
	lists, f := Make(m)
	if f.Code != 0 {
		t.Fatalf("%v: the fault %v", m, f)
	}
	var back api.Module
	for _, l := range lists {
		r := &reader{t: t, list: l}
		back.Funcs = append(back.Funcs, r.expr())
		if i := r.next(); i != (Ins{Op: OBack}) || r.at != len(l) {
			t.Fatalf("%v ends at %d: %s", i, r.at, written(l))
		}
	}
	if !code.Same(back, m) {
		t.Fatalf("%v was made of the instructions of %v", back, m)
	}
}

// randomKind tells a kind that may stand where there is room for so many parts; where there is much, most often one of several.
func randomKind(r *rand.Rand, room, open int) int {
	op := 1 + r.Intn(api.EKept)
	for parts[op] >= room || op == api.EVar && open == 0 || op == api.ELet && open == api.MaxLets || room > 4 && parts[op] < 2 && r.Intn(8) > 0 {
		op = 1 + r.Intn(api.EKept)
	}
	return op
}

// random tells an expression of at most so many parts, in which nothing is wrong.
func random(r *rand.Rand, room, open, funcs int) api.Expr {
	op := randomKind(r, room, open)
	e := api.Expr{Op: op}
	switch op {
	case api.ENum:
		e.N = int64(r.Uint64()) >> r.Intn(64)
	case api.EVar:
		e.K = r.Intn(open)
	case api.EBin:
		e.K = 1 + r.Intn(api.KEq)
	case api.ENarrow:
		e.K = r.Intn(api.RAll + 1)
	case api.ECall:
		e.K = r.Intn(funcs)
	}
	for i := range parts[op] {
		here := open
		if op == api.ELet && i == 1 {
			here++
		}
		e.L = append(e.L, random(r, (room-1)/parts[op], here, funcs))
	}
	return e
}

func randomModule(r *rand.Rand) api.Module {
	var m api.Module
	funcs := 1 + r.Intn(api.MaxFuncs)
	for range funcs {
		m.Funcs = append(m.Funcs, random(r, 1+r.Intn(api.MaxParts), 0, funcs))
	}
	return m
}

func TestMakeRandomModules(t *testing.T) {
	r := rand.New(rand.NewSource(3))
	met := map[int]int{}
	for range 3000 {
		m := randomModule(r)
		wantReference(t, m)
		wantBack(t, m)
		ticks, lets, ifs := 0, 0, 0
		for _, e := range places(m.Funcs) {
			met[e.Op]++
			ticks++
			switch e.Op {
			case api.ELet:
				lets++
			case api.EIf:
				ifs++
			}
		}
		count := map[int]int{}
		lists, _ := Make(m)
		for _, i := range slices.Concat(lists...) {
			count[i.Op]++
		}
		if count[OTick] != ticks || count[OBind] != lets || count[ODrop] != lets || count[OElse] != ifs || count[OJump] != ifs || count[OBack] != len(m.Funcs) || count[api.ELet] != 0 || count[api.EIf] != 0 {
			t.Fatalf("%v: %v of %d expressions, %d lets, %d ifs", m, count, ticks, lets, ifs)
		}
	}
	for op := range parts {
		if met[op] < 100 {
			t.Errorf("the kind %d was met %d times only", op, met[op])
		}
	}
}

// places tells all expressions in a list.
func places(l []api.Expr) []*api.Expr {
	var all []*api.Expr
	for i := range l {
		all = append(all, &l[i])
		all = append(all, places(l[i].L)...)
	}
	return all
}

// spoil changes one thing of one expression, a little.
func spoil(r *rand.Rand, e *api.Expr) {
	switch r.Intn(7) {
	case 0:
		e.Op += r.Intn(7) - 3
	case 1:
		e.K += r.Intn(5) - 2
	case 2:
		e.N += r.Int63n(3) - 1
	case 3:
		e.L = append(slices.Clone(e.L), arg)
	case 4:
		e.L = e.L[:len(e.L)/2]
	case 5:
		*e = inFst(r.Intn(api.MaxDeep), *e)
	case 6:
		*e = pair(*e, sized(1+r.Intn(api.MaxParts)))
	}
}

// One expression is changed: then there is a fault, and nothing else, or the instructions are other ones as often as the module is.
func TestMakeSpoiledModules(t *testing.T) {
	r := rand.New(rand.NewSource(4))
	met := map[int]int{}
	for range 5000 {
		m := randomModule(r)
		before, _ := Make(m)
		spoiled := code.Own(m)
		all := places(spoiled.Funcs)
		spoil(r, all[r.Intn(len(all))])
		f := code.Check(spoiled)
		met[f.Code]++
		if f.Code != 0 {
			wantFault(t, "spoiled", spoiled, f)
			continue
		}
		wantReference(t, spoiled)
		wantBack(t, spoiled)
		if after, _ := Make(spoiled); reflect.DeepEqual(after, before) != code.Same(m, spoiled) {
			t.Fatalf("%v and %v: of modules that are the same: %v", before, after, code.Same(m, spoiled))
		}
	}
	for _, code := range []int{0, api.ErrKind, api.ErrForm, api.ErrRange, api.ErrMany, api.ErrDeep} {
		if met[code] < 20 {
			t.Errorf("the code %d was met %d times only: %v", code, met[code], met)
		}
	}
}
