package parse

import (
	"fmt"
	"math"
	"math/rand"
	"reflect"
	"strconv"
	"strings"
	"testing"

	"letterlock/api"
	"letterlock/code"
	"letterlock/token"
)

// kinds are the words of the kinds from ENil on, as the document tells them, and how many expressions each has in it.
var kinds = []struct {
	word  string
	op    int
	parts int
}{
	{"nil", api.ENil, 0}, {"num", api.ENum, 0}, {"arg", api.EArg, 0}, {"var", api.EVar, 0}, {"let", api.ELet, 2},
	{"bin", api.EBin, 2}, {"if", api.EIf, 3}, {"pair", api.EPair, 2}, {"fst", api.EFst, 1}, {"snd", api.ESnd, 1},
	{"seal", api.ESeal, 1}, {"open", api.EOpen, 1}, {"read", api.ERead, 1}, {"write", api.EWrite, 2},
	{"narrow", api.ENarrow, 1}, {"wrap", api.EWrap, 1}, {"cut", api.ECut, 1}, {"call", api.ECall, 1},
	{"ask", api.EAsk, 2}, {"keep", api.EKeep, 1}, {"kept", api.EKept, 0},
}

// ways are the words of arithmetic from KAdd on.
var ways = []struct {
	word string
	k    int
}{{"add", api.KAdd}, {"sub", api.KSub}, {"mul", api.KMul}, {"less", api.KLess}, {"eq", api.KEq}}

// with tells what stands behind a word, ahead of the expressions.
func with(word string) string {
	switch word {
	case "num", "var", "call", "narrow":
		return "0"
	case "bin":
		return "add"
	}
	return ""
}

// made tells the text of an expression with so many in it.
func made(word string, parts int) string {
	return "(" + word + " " + with(word) + strings.Repeat(" (arg)", parts) + ")"
}

var arg = api.Expr{Op: api.EArg}

func of(op int, l ...api.Expr) api.Expr       { return api.Expr{Op: op, L: l} }
func num(n int64) api.Expr                    { return api.Expr{Op: api.ENum, N: n} }
func ofK(op, k int, l ...api.Expr) api.Expr   { return api.Expr{Op: op, K: k, L: l} }
func fault(code, at int) api.Fault            { return api.Fault{Code: code, At: at} }
func funcs(l ...api.Expr) api.Module          { return api.Module{Funcs: l} }
func inside(n int, word, inner string) string { return strings.Repeat("("+word+" ", n) + inner }

// around tells an expression in so many others, each of which has it as its one.
func around(n int, e string) string {
	return strings.Repeat("(fst ", n) + e + strings.Repeat(")", n)
}

// told tells a text, unless that is too much to read.
func told(s string) string {
	if len(s) > 200 {
		return fmt.Sprintf("%q.. of %d bytes", s[:200], len(s))
	}
	return fmt.Sprintf("%q", s)
}

func wantModule(t *testing.T, s string, want api.Module) {
	t.Helper()
	m, f := Parse(s)
	if f != (api.Fault{}) {
		t.Errorf("Parse(%s): the fault %v, want none", told(s), f)
		return
	}
	if !code.Same(m, want) {
		t.Errorf("Parse(%s) = %v, want %v", told(s), m, want)
	}
}

func wantFault(t *testing.T, s string, want api.Fault) {
	t.Helper()
	m, f := Parse(s)
	if f != want {
		t.Errorf("Parse(%s): the fault %v, want %v", told(s), f, want)
	}
	if len(m.Funcs) != 0 {
		t.Errorf("Parse(%s): %d functions with the fault %v", told(s), len(m.Funcs), f)
	}
}

func TestWord(t *testing.T) {
	for i, kind := range kinds {
		if kind.op != i+1 {
			t.Fatalf("the kind of %s is %d", kind.word, kind.op)
		}
		if got := Word(kind.op); got != kind.word {
			t.Errorf("Word(%d) = %q, want %q", kind.op, got, kind.word)
		}
	}
	for _, op := range []int{
		0, api.EKept + 1, -1, -api.EArg, api.EKept + 2, 100, 255, 256, 256 + api.EArg, 1 << 32, 1<<32 + api.EArg, -1 << 32,
		math.MinInt, math.MinInt + 1, math.MinInt + api.EArg, math.MaxInt, math.MaxInt - 1,
	} {
		if got := Word(op); got != "" {
			t.Errorf("Word(%d) = %q, want none", op, got)
		}
	}
}

func TestBin(t *testing.T) {
	for i, way := range ways {
		if way.k != i+1 {
			t.Fatalf("the arithmetic of %s is %d", way.word, way.k)
		}
		if got := Bin(way.k); got != way.word {
			t.Errorf("Bin(%d) = %q, want %q", way.k, got, way.word)
		}
	}
	for _, k := range []int{
		0, api.KEq + 1, -1, -api.KAdd, api.KEq + 2, 100, 255, 256, 256 + api.KAdd, 1 << 32, 1<<32 + api.KAdd, -1 << 32,
		math.MinInt, math.MinInt + 1, math.MinInt + api.KAdd, math.MaxInt, math.MaxInt - 1,
	} {
		if got := Bin(k); got != "" {
			t.Errorf("Bin(%d) = %q, want none", k, got)
		}
	}
}

func TestParseEveryKind(t *testing.T) {
	for text, want := range map[string]api.Expr{
		"(nil)":                            of(api.ENil),
		"(num 7)":                          num(7),
		"(arg)":                            arg,
		"(let (nil) (var 0))":              of(api.ELet, of(api.ENil), ofK(api.EVar, 0)),
		"(let (arg) (let (nil) (var 1)))":  of(api.ELet, arg, of(api.ELet, of(api.ENil), ofK(api.EVar, 1))),
		"(bin sub (arg) (num 1))":          ofK(api.EBin, api.KSub, arg, num(1)),
		"(if (num 1) (num 2) (num 3))":     of(api.EIf, num(1), num(2), num(3)),
		"(pair (num 1) (num 2))":           of(api.EPair, num(1), num(2)),
		"(fst (arg))":                      of(api.EFst, arg),
		"(snd (arg))":                      of(api.ESnd, arg),
		"(seal (arg))":                     of(api.ESeal, arg),
		"(open (arg))":                     of(api.EOpen, arg),
		"(read (arg))":                     of(api.ERead, arg),
		"(write (arg) (num 5))":            of(api.EWrite, arg, num(5)),
		"(narrow 5 (arg))":                 ofK(api.ENarrow, 5, arg),
		"(wrap (arg))":                     of(api.EWrap, arg),
		"(cut (snd (wrap (arg))))":         of(api.ECut, of(api.ESnd, of(api.EWrap, arg))),
		"(call 0 (arg))":                   ofK(api.ECall, 0, arg),
		"(ask (arg) (num 4))":              of(api.EAsk, arg, num(4)),
		"(keep (arg))":                     of(api.EKeep, arg),
		"(kept)":                           of(api.EKept),
		"(read (narrow 1 (arg)))":          of(api.ERead, ofK(api.ENarrow, 1, arg)),
		"(if (kept) (keep (arg)) (nil))":   of(api.EIf, of(api.EKept), of(api.EKeep, arg), of(api.ENil)),
		"(ask (fst (arg)) (snd (arg)))":    of(api.EAsk, of(api.EFst, arg), of(api.ESnd, arg)),
		"(pair (pair (nil) (arg)) (kept))": of(api.EPair, of(api.EPair, of(api.ENil), arg), of(api.EKept)),
	} {
		wantModule(t, "fun "+text, funcs(want))
		wantModule(t, "fun (arg) fun "+text, funcs(arg, want))
		wantModule(t, "fun "+text+" fun (arg)", funcs(want, arg))
	}
}

func TestParseEveryArithmetic(t *testing.T) {
	for _, way := range ways {
		wantModule(t, "fun (bin "+way.word+" (num 3) (num 4))", funcs(ofK(api.EBin, way.k, num(3), num(4))))
	}
}

func TestParseEveryNumber(t *testing.T) {
	for _, n := range []int64{0, 1, -1, 999, 1000, -999, 1 << 31, 1 << 32, 1<<53 + 1, math.MaxInt64, math.MaxInt64 - 1, math.MinInt64, math.MinInt64 + 1} {
		wantModule(t, fmt.Sprintf("fun (num %d)", n), funcs(num(n)))
	}
	for k := range api.RAll + 1 {
		wantModule(t, fmt.Sprintf("fun (narrow %d (arg))", k), funcs(ofK(api.ENarrow, k, arg)))
	}
}

func TestParseFunctions(t *testing.T) {
	want := api.Module{}
	text := ""
	for i := range api.MaxFuncs {
		text += fmt.Sprintf("fun (call %d (num %d))\n", i, i)
		want.Funcs = append(want.Funcs, ofK(api.ECall, i, num(int64(i))))
	}
	wantModule(t, text, want)
	wantFault(t, text+"fun (arg)", fault(api.ErrMany, -1))
	// A function may call one that stands behind it.
	wantModule(t, "fun (call 1 (arg)) fun (nil)", funcs(ofK(api.ECall, 1, arg), of(api.ENil)))
}

func TestParseBlanks(t *testing.T) {
	want := funcs(ofK(api.EBin, api.KLess, num(-1), ofK(api.ENarrow, 3, arg)), of(api.ENil))
	for _, blank := range []string{" ", "\t", "\n", "\r", "\r\n", "  ", " \t\n\r"} {
		text := strings.ReplaceAll(" fun ( bin less ( num -1 ) ( narrow 3 ( arg ) ) ) fun ( nil ) ", " ", blank)
		wantModule(t, text, want)
	}
	wantModule(t, "fun(bin less(num -1)(narrow 3(arg)))fun(nil)", want)
	wantModule(t, "fun(bin less(num-1)(narrow3(arg)))fun(nil)", want)
}

func TestParseNothing(t *testing.T) {
	for _, s := range []string{"", " ", "\t", "\n", "\r", " \n\t\r ", strings.Repeat(" ", api.MaxText)} {
		wantFault(t, s, fault(api.ErrMany, -1))
	}
}

// lines are texts of modules, with a blank wherever one may stand.
var lines = []string{
	"fun ( arg )",
	"fun ( num -12 )",
	"fun ( let ( nil ) ( var 0 ) )",
	"fun ( bin mul ( arg ) ( num 2 ) )",
	"fun ( if ( kept ) ( call 0 ( arg ) ) ( narrow 7 ( arg ) ) ) fun ( pair ( nil ) ( seal ( arg ) ) )",
	"fun ( ask ( fst ( arg ) ) ( snd ( arg ) ) ) fun ( write ( arg ) ( read ( arg ) ) )",
}

func TestParseEndsTooEarly(t *testing.T) {
	for _, line := range lines {
		tokens := strings.Fields(line)
		for i := 1; i < len(tokens); i++ {
			if tokens[i] == "fun" {
				continue
			}
			s := strings.Join(tokens[:i], " ")
			for _, behind := range []string{"", " ", "\n\n", " \t\r\n"} {
				wantFault(t, s+behind, fault(api.ErrShort, len(s+behind)))
			}
		}
	}
	for _, s := range []string{
		"fun", "fun ", "fun (", "fun (num", "fun (num ", "fun (num 1", "fun (var", "fun (var 0", "fun (call", "fun (call 0", "fun (narrow",
		"fun (narrow 3 (arg)", "fun (bin", "fun (bin add", "fun (bin add (arg)", "fun (bin add (arg) (arg)", "fun (arg", "fun (arg) fun",
		"fun (if (arg) (arg)", "fun (fst (", "fun (fst (arg",
	} {
		wantFault(t, s, fault(api.ErrShort, len(s)))
	}
}

// At is a token's byte, not its number: so the blanks ahead of it count.
func TestParseWrongToken(t *testing.T) {
	for _, c := range []struct {
		ahead, token, behind string
	}{
		{"", "(", "arg)"},
		{"  ", "(", "arg)"},
		{"", "arg", ""},
		{"", "fu", " (arg)"},
		{"", "func", " (arg)"},
		{"", "funfun", " (arg) (arg)"},
		{"", "7", ""},
		{"", ")", ""},
		{"fun ", "arg", ""},
		{"fun ", "fun", " (arg)"},
		{"fun ", ")", ""},
		{"fun ", "1", " (arg)"},
		{"fun (arg) ", "(", "arg)"},
		{"fun (arg)", ")", ""},
		{"fun (arg)\n\n", "arg", " fun (arg)"},
		{"fun (arg) ", "1", ""},
		{"fun (arg) fun (nil) ", "nil", ""},
		{"fun (", "fun", " (arg))"},
		{"fun (", "what", ")"},
		{"fun (", "nils", ")"},
		{"fun (", "ni", ")"},
		{"fun (", "add", " (arg) (arg))"},
		{"fun (", "1", ")"},
		{"fun (", "1000", ")"},
		{"fun (", ")", ""},
		{"fun (", "(", "arg))"},
		{"fun (fst ", "arg", ")"},
		{"fun (fst ", "fun", " (arg))"},
		{"fun (fst ", "1", ")"},
		{"fun (arg ", "1", ")"},
		{"fun (arg ", "arg", ")"},
		{"fun (arg ", "fun", " (arg)"},
		{"fun (fst (arg) ", "fun", " (arg)"},
		{"fun (num ", "x", ")"},
		{"fun (num ", "fun", ")"},
		{"fun (num ", ")", ""},
		{"fun (num ", "(", "num 1))"},
		{"fun (num 1 ", "1", ")"},
		{"fun (num 1 ", "x", ")"},
		{"fun (var ", "add", ")"},
		{"fun (var ", ")", ""},
		{"fun (var 1 ", "1", ")"},
		{"fun (call ", "(", "arg))"},
		{"fun (call ", "one", " (arg))"},
		{"fun (call 0 ", "0", " (arg))"},
		{"fun (narrow ", "rw", " (arg))"},
		{"fun (narrow ", "(", "arg))"},
		{"fun (bin ", "or", " (arg) (arg))"},
		{"fun (bin ", "bin", " (arg) (arg))"},
		{"fun (bin ", "adds", " (arg) (arg))"},
		{"fun (bin ", "1", " (arg) (arg))"},
		{"fun (bin ", "(", "arg) (arg))"},
		{"fun (bin ", ")", ""},
		{"fun (bin add ", "add", " (arg) (arg))"},
		{"fun (bin add ", "1", " (arg) (arg))"},
		{"fun (let ", "x", " (arg) (arg))"},
	} {
		wantFault(t, c.ahead+c.token+c.behind, fault(api.ErrForm, len(c.ahead)))
		wantFault(t, " \n"+c.ahead+"\t\r "+c.token+" "+c.behind, fault(api.ErrForm, len(c.ahead)+5))
		wantFault(t, c.ahead+c.token, fault(api.ErrForm, len(c.ahead)))
	}
}

// Every kind by itself: with as many expressions as it has, with fewer, and with more.
func TestParseCountsExpressions(t *testing.T) {
	for _, kind := range kinds {
		for parts := range 6 {
			text := "fun (let (arg) " + made(kind.word, parts)
			switch {
			case parts < kind.parts:
				wantFault(t, text+")", fault(api.ErrForm, len(text)-1))
				wantFault(t, text[:len(text)-1], fault(api.ErrShort, len(text)-1))
			case parts == kind.parts:
				e := api.Expr{Op: kind.op}
				if kind.op == api.EBin {
					e.K = api.KAdd
				}
				for range parts {
					e.L = append(e.L, arg)
				}
				wantModule(t, text+")", funcs(of(api.ELet, arg, e)))
			default:
				first := "fun (let (arg) " + strings.TrimSuffix(made(kind.word, kind.parts), ")")
				wantFault(t, text+")", fault(api.ErrForm, len(first)+1))
			}
		}
	}
}

func TestParseNumberBehindEveryKind(t *testing.T) {
	for _, kind := range kinds {
		for _, behind := range []string{"0", "1000", "add", "(", ")"} {
			ahead := "fun (" + kind.word + " "
			want := fault(api.ErrForm, len(ahead))
			switch {
			case with(kind.word) == behind, kind.word == "num" && behind == "1000":
				want = fault(api.ErrShort, len(ahead+behind))
			case with(kind.word) == "0" && behind == "1000":
				want = fault(api.ErrRange, len(ahead))
			case with(kind.word) == "" && kind.parts > 0 && behind == "(":
				want = fault(api.ErrShort, len(ahead+behind))
			case with(kind.word) == "" && kind.parts == 0 && behind == ")":
				wantModule(t, ahead+behind, funcs(of(kind.op)))
				continue
			}
			wantFault(t, ahead+behind, want)
		}
	}
}

func TestParseRange(t *testing.T) {
	for _, word := range []string{"var", "call", "narrow"} {
		ahead := "fun (" + word + " "
		for _, n := range []int64{-1, -2, -999, 1000, 1001, 9999, 1 << 32, 1<<32 + 1, -1 << 32, math.MaxInt64, math.MaxInt64 - 1, math.MinInt64, math.MinInt64 + 1} {
			wantFault(t, fmt.Sprint(ahead, n, " (arg))"), fault(api.ErrRange, len(ahead)))
			wantFault(t, fmt.Sprint("  ", ahead, " ", n), fault(api.ErrRange, len(ahead)+3))
		}
		// What is in range here may still be too much for code.Check.
		for _, n := range []int{0, 1, 15, 16, 500, 998, 999} {
			text := fmt.Sprint(ahead, n)
			wantFault(t, text, fault(api.ErrShort, len(text)))
			wantFault(t, text+" x", fault(api.ErrForm, len(text)+1))
		}
	}
	wantModule(t, "fun (let (nil) (var 0))", funcs(of(api.ELet, of(api.ENil), ofK(api.EVar, 0))))
	wantFault(t, "fun (arg) fun (var 999)", fault(api.ErrRange, 1))
	wantFault(t, "fun (arg) fun (call 999 (arg))", fault(api.ErrRange, 1))
	wantFault(t, "fun (arg) fun (narrow 999 (arg))", fault(api.ErrRange, 1))
	// The number is looked at ahead of what comes behind it.
	wantFault(t, "fun (call 1000", fault(api.ErrRange, 10))
	wantFault(t, "fun (call 1000 1000)", fault(api.ErrRange, 10))
	wantFault(t, "fun (call 0 (call 1000 (what)))", fault(api.ErrRange, 18))
	wantFault(t, "fun (call 0 (what)) fun (call 1000 (arg))", fault(api.ErrForm, 13))
}

func TestParseDepth(t *testing.T) {
	e := arg
	for range api.MaxDeep {
		e = of(api.EFst, e)
	}
	wantModule(t, "fun "+around(api.MaxDeep, "(arg)"), funcs(e))
	wantModule(t, "fun (arg) fun "+around(api.MaxDeep, "(arg)"), funcs(arg, e))
	wantFault(t, "fun "+around(api.MaxDeep+1, "(arg)"), fault(api.ErrDeep, 4+5*(api.MaxDeep+1)))
	wantFault(t, "fun "+around(api.MaxDeep+2, "(arg)"), fault(api.ErrDeep, 4+5*(api.MaxDeep+1)))
	wantFault(t, "fun (arg) fun "+around(900, "(arg)"), fault(api.ErrDeep, 14+5*(api.MaxDeep+1)))
	wantFault(t, "fun "+strings.Repeat("(fst", 1400), fault(api.ErrDeep, 4+4*(api.MaxDeep+1)))
	// Brackets that were closed count no longer.
	deep := around(api.MaxDeep-1, "(arg)")
	wantModule(t, "fun (pair "+deep+" "+deep+")", funcs(of(api.EPair, e.L[0], e.L[0])))
}

// Too deep is a place, whatever stands in it, or if nothing does.
func TestParseTooDeepWhateverStandsThere(t *testing.T) {
	ahead := "fun " + inside(api.MaxDeep+1, "snd", "")
	for _, what := range []string{
		"(", ")", "x", "fun", "arg", "7", "1000", "-1", "(arg)", "(what)", "()", "(var 1000)", "(num x)", "(narrow -1 (arg))", "(bin or", "(fst (fst",
	} {
		wantFault(t, ahead+what, fault(api.ErrDeep, len(ahead)))
		wantFault(t, ahead+" \n "+what+" ", fault(api.ErrDeep, len(ahead)+3))
	}
	wantFault(t, ahead, fault(api.ErrDeep, len(ahead)))
	wantFault(t, ahead+" \n ", fault(api.ErrDeep, len(ahead)+3))
	tight := strings.TrimSuffix(ahead, " ")
	wantFault(t, tight, fault(api.ErrDeep, len(tight)))
	// At the deepest place that may be, all is as elsewhere.
	ahead = "fun " + inside(api.MaxDeep, "snd", "")
	wantFault(t, ahead, fault(api.ErrShort, len(ahead)))
	wantFault(t, ahead+")", fault(api.ErrForm, len(ahead)))
	wantFault(t, ahead+"(what", fault(api.ErrForm, len(ahead)+1))
	wantFault(t, ahead+"(var 1000", fault(api.ErrRange, len(ahead)+5))
	wantFault(t, ahead+"(arg (", fault(api.ErrForm, len(ahead)+5))
	wantFault(t, ahead+"(pair what", fault(api.ErrDeep, len(ahead)+6))
	wantFault(t, ahead+"(var 1000 (", fault(api.ErrRange, len(ahead)+5))
	wantFault(t, ahead+"(narrow x (", fault(api.ErrForm, len(ahead)+8))
	wantFault(t, ahead+"(narrow 1000 (", fault(api.ErrRange, len(ahead)+8))
	wantFault(t, ahead+"(narrow 0", fault(api.ErrDeep, len(ahead)+9))
	wantFault(t, ahead+"(bin or", fault(api.ErrForm, len(ahead)+5))
	wantFault(t, ahead+"(bin", fault(api.ErrShort, len(ahead)+4))
	wantFault(t, ahead+"(bin eq", fault(api.ErrDeep, len(ahead)+7))
}

func TestParseTokensFirst(t *testing.T) {
	wantFault(t, "+", fault(api.ErrText, 0))
	wantFault(t, "fun (arg) +", fault(api.ErrText, 10))
	wantFault(t, "fun (num 05)", fault(api.ErrText, 9))
	wantFault(t, "fun (num -)", fault(api.ErrText, 9))
	wantFault(t, "fun (num 9223372036854775808)", fault(api.ErrText, 9))
	wantFault(t, "fun (var -9223372036854775809)", fault(api.ErrText, 9))
	wantFault(t, "Fun (arg)", fault(api.ErrText, 0))
	for _, wrong := range []string{
		")", "fun (what)", "fun (var 1000)", "fun (arg)", "fun (var 3)", "fun " + strings.Repeat("(fst ", 40), "(arg)", "fun (", strings.Repeat("fun (arg) ", 7),
	} {
		far := wrong + strings.Repeat(" fun (nil)", 100)
		wantFault(t, far+"A", fault(api.ErrText, len(far)))
		wantFault(t, wrong+strings.Repeat(" ", api.MaxText+1-len(wrong)), fault(api.ErrMany, api.MaxText))
		wantFault(t, wrong+"A"+strings.Repeat(" ", api.MaxText-len(wrong)), fault(api.ErrMany, api.MaxText))
	}
	wantModule(t, "fun (arg)"+strings.Repeat(" ", api.MaxText-9), funcs(arg))
	wantFault(t, "fun (arg"+strings.Repeat(" ", api.MaxText-8), fault(api.ErrShort, api.MaxText))
}

func TestParseFormAheadOfCheck(t *testing.T) {
	many := strings.Repeat("fun (arg) ", api.MaxFuncs+1)
	for _, wrong := range []string{"fun (var 0) ", "fun (call 8 (arg)) ", "fun (narrow 16 (arg)) ", many} {
		wantFault(t, wrong+"x", fault(api.ErrForm, len(wrong)))
		wantFault(t, wrong+"fun", fault(api.ErrShort, len(wrong)+3))
		wantFault(t, wrong+"fun (var 1000)", fault(api.ErrRange, len(wrong)+9))
		wantFault(t, wrong+"fun "+around(api.MaxDeep+1, "(arg)"), fault(api.ErrDeep, len(wrong)+4+5*(api.MaxDeep+1)))
	}
}

// full tells an expression that has so many, itself among them, and is not deep.
func full(parts int) string {
	if parts == 1 {
		return "(nil)"
	}
	if parts == 2 {
		return "(fst (nil))"
	}
	return "(pair " + full((parts-1)/2) + " " + full(parts-1-(parts-1)/2) + ")"
}

func TestParseThenCheck(t *testing.T) {
	for wrong, code := range map[string]int{
		"(var 0)":                          api.ErrRange,
		"(let (var 0) (arg))":              api.ErrRange,
		"(let (arg) (var 1))":              api.ErrRange,
		"(narrow 16 (arg))":                api.ErrRange,
		"(call 6 (arg))":                   api.ErrRange,
		"(call 999 (arg))":                 api.ErrRange,
		full(api.MaxParts + 1):             api.ErrMany,
		inLets(api.MaxLets+1, "(arg)"):     api.ErrMany,
		inLets(api.MaxLets, "(var 12)"):    api.ErrRange,
		"(pair (var 0) " + full(120) + ")": api.ErrMany,
	} {
		for at := range 3 {
			text := strings.Repeat("fun (arg)\n", at) + "fun " + wrong
			wantFault(t, text, fault(code, at))
			wantFault(t, text+" fun (arg)", fault(code, at))
			wantFault(t, text+" fun (var 5)", fault(code, at))
		}
	}
	for _, right := range []string{full(api.MaxParts), inLets(api.MaxLets, "(arg)"), inLets(api.MaxLets, "(var 11)"), "(call 0 (arg))"} {
		if m, f := Parse("fun " + right); f.Code != 0 || len(m.Funcs) != 1 {
			t.Errorf("Parse(fun %s): the fault %v and %d functions, want none and 1", told(right), f, len(m.Funcs))
		}
	}
	// How many there are is asked ahead of what they are.
	wantFault(t, strings.Repeat("fun (var 0) ", api.MaxFuncs+1), fault(api.ErrMany, -1))
	wantFault(t, strings.Repeat("fun (nil) ", 600), fault(api.ErrMany, -1))
}

func inLets(n int, e string) string {
	return strings.Repeat("(let (arg) ", n) + e + strings.Repeat(")", n)
}

// places tells all lists that are not empty.
func places(l []api.Expr) [][]api.Expr {
	if len(l) == 0 {
		return nil
	}
	all := [][]api.Expr{l}
	for _, e := range l {
		all = append(all, places(e.L)...)
	}
	return all
}

func TestParseTellsNewMemory(t *testing.T) {
	text := "fun (pair (pair (arg) (arg)) (pair (arg) (arg))) fun (if (arg) (fst (arg)) (fst (arg)))"
	m, _ := Parse(text)
	again, _ := Parse(text)
	lists := places(m.Funcs)
	for i, l := range lists {
		l = l[:cap(l)]
		for j := range l {
			l[j] = api.Expr{Op: -i - 1, L: l[j].L}
		}
	}
	for i, l := range lists {
		for _, e := range l {
			if e.Op != -i-1 {
				t.Errorf("two lists share memory: %d and %d", i, -e.Op-1)
			}
		}
	}
	wantModule(t, text, again)
	if third, _ := Parse(text); !reflect.DeepEqual(third, again) {
		t.Error("what was told was changed by who changed another one")
	}
}

// goal is what must come next in a text: fun, a bracket, or, in capitals, what no token is by its text.
type goal struct {
	what   string
	others int // of an expression: in how many it stands
}

// head of an expression.
type head struct {
	op, k int
	n     int64
	parts int
}

// goals is what must come in a text, the next one last, and what was read of it.
type goals struct {
	left  []goal
	heads []head
}

// byGoals reads a text by a list of what must come, and tells the heads of its functions' expressions in their order.
func byGoals(s string) ([]head, api.Fault) {
	tokens, f := token.Scan(s)
	if f.Code != 0 {
		return nil, f
	}
	g := goals{left: []goal{{"MODULE", 0}}}
	for {
		at, text := len(s), ""
		if len(tokens) > 0 {
			at, text = tokens[0].At, tokens[0].Text
		}
		next := g.left[len(g.left)-1]
		switch {
		case next.what == "MODULE" && text == "":
			return g.heads, api.Fault{}
		case next.what == "MODULE":
			g.left = append(g.left, goal{"EXPR", 0}, goal{"fun", 0})
			continue
		case next.what == "EXPR" && next.others > 30:
			return nil, fault(api.ErrDeep, at)
		case next.what == "EXPR":
			g.left = append(g.left[:len(g.left)-1], goal{")", 0}, goal{"WORD", next.others}, goal{"(", 0})
			continue
		case text == "":
			return nil, fault(api.ErrShort, at)
		}
		tokens = tokens[1:]
		g.left = g.left[:len(g.left)-1]
		if code := g.meet(next, text); code != 0 {
			return nil, fault(code, at)
		}
	}
}

// meet tells what is wrong with a token where a goal must come; 0: nothing.
func (g *goals) meet(next goal, text string) int {
	n, err := strconv.ParseInt(text, 10, 64)
	switch {
	case next.what == "WORD":
		return g.meetWord(text, next.others)
	case next.what == "WAY":
		for _, way := range ways {
			if way.word == text {
				g.heads[len(g.heads)-1].k = way.k
				return 0
			}
		}
		return api.ErrForm
	case next.what == "NUMBER" && err == nil:
		g.heads[len(g.heads)-1].n = n
		return 0
	case next.what == "SMALL" && err == nil && (n < 0 || n > 999):
		return api.ErrRange
	case next.what == "SMALL" && err == nil:
		g.heads[len(g.heads)-1].k = int(n)
		return 0
	case next.what == text:
		return 0
	}
	return api.ErrForm
}

func (g *goals) meetWord(text string, others int) int {
	for _, kind := range kinds {
		if kind.word != text {
			continue
		}
		g.heads = append(g.heads, head{op: kind.op, parts: kind.parts})
		for range kind.parts {
			g.left = append(g.left, goal{"EXPR", others + 1})
		}
		switch text {
		case "num":
			g.left = append(g.left, goal{"NUMBER", 0})
		case "var", "call", "narrow":
			g.left = append(g.left, goal{"SMALL", 0})
		case "bin":
			g.left = append(g.left, goal{"WAY", 0})
		}
		return 0
	}
	return api.ErrForm
}

// build makes one expression of the heads, and tells those that are left.
func build(heads []head) (api.Expr, []head) {
	h := heads[0]
	e := api.Expr{Op: h.op, K: h.k, N: h.n}
	heads = heads[1:]
	for range h.parts {
		var inner api.Expr
		inner, heads = build(heads)
		e.L = append(e.L, inner)
	}
	return e, heads
}

// reference tells what Parse should.
func reference(s string) (api.Module, api.Fault) {
	heads, f := byGoals(s)
	if f.Code != 0 {
		return api.Module{}, f
	}
	var m api.Module
	for len(heads) > 0 {
		var e api.Expr
		e, heads = build(heads)
		m.Funcs = append(m.Funcs, e)
	}
	if f := code.Check(m); f.Code != 0 {
		return api.Module{}, f
	}
	return m, api.Fault{}
}

// wantReference tells whether there was a module.
func wantReference(t *testing.T, s string) bool {
	t.Helper()
	m, f := reference(s)
	if f.Code != 0 {
		wantFault(t, s, f)
	} else {
		wantModule(t, s, m)
	}
	return f.Code == 0
}

// texts goes through all texts of so many of some pieces.
func texts(pieces []string, n int, ahead string, look func(string)) {
	look(ahead)
	if n == 0 {
		return
	}
	for _, piece := range pieces {
		texts(pieces, n-1, ahead+piece+" ", look)
	}
}

func TestParseAllShortTexts(t *testing.T) {
	pieces := []string{"(", ")", "fun", "arg", "num", "fst", "bin", "add", "narrow", "7", "1000"}
	texts(pieces, 5, "", func(s string) { wantReference(t, s) })
	texts(pieces, 4, "fun (pair (", func(s string) { wantReference(t, s) })
	texts(pieces, 4, "fun (arg) fun (bin ", func(s string) { wantReference(t, s) })
	texts(pieces, 3, "fun "+inside(api.MaxDeep, "fst", "("), func(s string) { wantReference(t, s) })
	texts(pieces, 3, "fun "+inside(api.MaxDeep-1, "if (arg)", "("), func(s string) { wantReference(t, s) })
}

// random tells the text of an expression, with the names that are open.
func random(r *rand.Rand, parts, open, funcs int) string {
	kind := kinds[r.Intn(len(kinds))]
	for kind.parts >= parts && kind.parts > 0 || kind.op == api.EVar && open == 0 || kind.op == api.ELet && open == api.MaxLets {
		kind = kinds[r.Intn(len(kinds))]
	}
	s := "( " + kind.word + " "
	switch kind.word {
	case "num":
		s += strconv.FormatInt(int64(r.Uint64())>>r.Intn(64), 10) + " "
	case "var":
		s += strconv.Itoa(r.Intn(open)) + " "
	case "call":
		s += strconv.Itoa(r.Intn(funcs)) + " "
	case "narrow":
		s += strconv.Itoa(r.Intn(api.RAll+1)) + " "
	case "bin":
		s += ways[r.Intn(len(ways))].word + " "
	}
	for i := range kind.parts {
		inner := open
		if kind.op == api.ELet && i == 1 {
			inner++
		}
		s += random(r, (parts-1)/kind.parts, inner, funcs) + " "
	}
	return s + ")"
}

func randomText(r *rand.Rand) string {
	funcs := 1 + r.Intn(api.MaxFuncs)
	var l []string
	for range funcs {
		l = append(l, "fun "+random(r, 1+r.Intn(40), 0, funcs))
	}
	return strings.Join(l, " ")
}

// mayTouch tells whether a token is the same without a blank ahead of it, and what is ahead of it, too.
func mayTouch(ahead, token string) bool {
	return ahead == "" || strings.ContainsAny(ahead[len(ahead)-1:]+token[:1], "()")
}

// blanked tells the tokens with blanks of any sort between them; some with none, where they may touch.
func blanked(r *rand.Rand, tokens []string) string {
	blanks := []string{" ", "\t", "\n", "\r", "  ", "\r\n\t"}
	s := ""
	for _, x := range tokens {
		if !mayTouch(s, x) || r.Intn(3) > 0 {
			s += blanks[r.Intn(len(blanks))]
		}
		s += x
	}
	if r.Intn(2) == 0 {
		s += blanks[r.Intn(len(blanks))]
	}
	return s
}

func TestParseRandomTexts(t *testing.T) {
	r := rand.New(rand.NewSource(7))
	right := 0
	for range 4000 {
		if wantReference(t, blanked(r, strings.Fields(randomText(r)))) {
			right++
		}
	}
	if right != 4000 {
		t.Errorf("%d of 4000 texts are of modules: not all were tried", right)
	}
}

// One token is another one, is left out, or is there more: most often that is a fault.
func TestParseSpoiledTexts(t *testing.T) {
	r := rand.New(rand.NewSource(8))
	others := []string{"(", ")", "fun", "arg", "if", "pair", "num", "var", "call", "narrow", "bin", "add", "eq", "what", "0", "7", "-1", "999", "1000", "Z", "( arg )"}
	codes := map[int]int{}
	for range 20000 {
		tokens := strings.Fields(randomText(r))
		for range 1 + r.Intn(2) {
			i := r.Intn(len(tokens))
			other := others[r.Intn(len(others))]
			switch r.Intn(4) {
			case 0:
				tokens[i] = other
			case 1:
				tokens = append(tokens[:i:i], tokens[i+1:]...)
			case 2:
				tokens = append(tokens[:i:i], append([]string{other}, tokens[i:]...)...)
			case 3:
				tokens = tokens[:i]
			}
			if len(tokens) == 0 {
				break
			}
		}
		s := blanked(r, strings.Fields(strings.Join(tokens, " ")))
		wantReference(t, s)
		_, f := reference(s)
		codes[f.Code]++
	}
	for _, code := range []int{0, api.ErrText, api.ErrForm, api.ErrShort, api.ErrRange, api.ErrMany} {
		if codes[code] < 20 {
			t.Errorf("the code %d was met %d times only: %v", code, codes[code], codes)
		}
	}
}
