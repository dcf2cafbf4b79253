package vals

import (
	"fmt"
	"math"
	"math/rand"
	"reflect"
	"runtime/debug"
	"slices"
	"strings"
	"testing"

	"letterlock/api"
)

// kinds are all that there are.
var kinds = []int{api.VNil, api.VInt, api.VPair, api.VSeal, api.VCap, api.VGate}

// noKinds are just outside and far outside; some of them are a kind in their low bits.
var noKinds = []int{
	-1, api.VGate + 1, api.VGate + 2, -2, -api.VPair, 256, 256 + api.VInt, 1 << 32, 1<<32 + api.VCap,
	math.MinInt, math.MinInt + api.VPair, math.MaxInt,
}

func num(n int64) api.Val             { return api.Val{Kind: api.VInt, N: n} }
func ability(n int64) api.Val         { return api.Val{Kind: api.VCap, N: n} }
func gate(n int64) api.Val            { return api.Val{Kind: api.VGate, N: n} }
func pair(a, b api.Val) api.Val       { return api.Val{Kind: api.VPair, L: []api.Val{a, b}} }
func seal(n int64, v api.Val) api.Val { return api.Val{Kind: api.VSeal, N: n, L: []api.Val{v}} }
func with(kind int, n int) api.Val    { return api.Val{Kind: kind, L: make([]api.Val, n)} }
func inPairs(depth int, v api.Val) api.Val {
	for range depth {
		v = pair(v, api.Val{})
	}
	return v
}
func inSeals(depth int, v api.Val) api.Val {
	for range depth {
		v = seal(0, v)
	}
	return v
}

// inSelf tells a pair that is in itself, beside a number.
func inSelf(n int64) api.Val {
	l := []api.Val{num(n), {Kind: api.VPair}}
	l[1].L = l
	return l[1]
}

// inSelfTwice tells a pair of itself and itself.
func inSelfTwice() api.Val {
	l := []api.Val{{Kind: api.VPair}, {Kind: api.VPair}}
	l[0].L, l[1].L = l, l
	return l[0]
}

// doubled tells a thing of which every list stands in memory once, and is there twice as often as that around it.
func doubled(depth int, v api.Val) api.Val {
	for range depth {
		v = pair(v, v)
	}
	return v
}

// deep is deeper than calls can be open, where the stack is small.
const deep = 300000

func smallStack(t *testing.T) {
	before := debug.SetMaxStack(1 << 20)
	t.Cleanup(func() { debug.SetMaxStack(before) })
}

// part tells one of the parts of a thing, by which one it is in each list on the way to it.
func part(v *api.Val, way ...int) *api.Val {
	for _, i := range way {
		v = &v.L[i]
	}
	return v
}

// copied makes a thing anew, in a way of its own.
func copied(v api.Val) api.Val {
	if v.L == nil {
		return v
	}
	l := make([]api.Val, len(v.L))
	for i := range l {
		l[i] = copied(v.L[i])
	}
	v.L = l
	return v
}

func wantCheck(t *testing.T, v api.Val, want int) {
	t.Helper()
	if code := Check(v); code != want {
		t.Errorf("Check(%.200v) = %d, want %d", fmt.Sprint(v), code, want)
	}
}

func TestCheckValues(t *testing.T) {
	for _, v := range []api.Val{
		{}, {Kind: api.VNil, L: []api.Val{}},
		num(0), num(-1), num(math.MinInt64), num(math.MaxInt64), {Kind: api.VInt, N: 4, L: []api.Val{}},
		ability(0), ability(1), ability(api.MaxNodes), ability(math.MaxInt64), {Kind: api.VCap, L: []api.Val{}},
		gate(0), gate(1), gate(api.MaxGates), gate(math.MaxInt64), {Kind: api.VGate, L: []api.Val{}},
		pair(api.Val{}, api.Val{}), pair(num(-1), ability(2)), pair(pair(num(1), gate(2)), pair(seal(0, num(3)), num(4))),
		seal(0, api.Val{}), seal(1, ability(2)), seal(api.MaxPlugins, num(-5)), seal(math.MaxInt64, num(1)),
		seal(3, seal(2, seal(3, pair(gate(1), num(math.MinInt64))))),
	} {
		wantCheck(t, v, 0)
	}
}

func TestCheckCountsParts(t *testing.T) {
	for _, c := range []struct {
		v    api.Val
		want int
	}{
		{inSeals(api.MaxValue-1, num(1)), 0},
		{inSeals(api.MaxValue, num(1)), api.ErrMany},
		{inPairs(api.MaxValue/2-1, num(1)), 0},
		{seal(0, inPairs(api.MaxValue/2-1, num(1))), 0},
		{inPairs(api.MaxValue/2, num(1)), api.ErrMany},
		{pair(inSeals(18, num(1)), inSeals(19, num(2))), 0},
		{pair(inSeals(19, num(1)), inSeals(19, num(2))), api.ErrMany},
		{pair(inSeals(18, num(1)), inSeals(20, num(2))), api.ErrMany},
		{doubled(4, num(1)), 0},
		{pair(doubled(4, num(1)), inPairs(3, num(2))), 0},
		{pair(doubled(4, num(1)), inPairs(4, num(2))), api.ErrMany},
		{doubled(5, num(1)), api.ErrMany},
	} {
		wantCheck(t, c.v, c.want)
	}
}

// Of each kind, and of none, all that is in L counts.
func TestCheckCountsAheadOfAllElse(t *testing.T) {
	for _, kind := range append(slices.Clone(kinds), noKinds...) {
		_, there := partsOf(kind)
		few := api.ErrForm
		if !there {
			few = api.ErrKind
		}
		wantCheck(t, with(kind, api.MaxValue-1), few)
		wantCheck(t, with(kind, api.MaxValue), api.ErrMany)
		wantCheck(t, with(kind, 100000), api.ErrMany)
		wantCheck(t, pair(with(kind, api.MaxValue-3), num(1)), few)
		wantCheck(t, pair(with(kind, api.MaxValue-2), num(1)), api.ErrMany)
		wantCheck(t, pair(num(1), with(kind, api.MaxValue-2)), api.ErrMany)
	}
	wantCheck(t, pair(ability(-1), inSeals(100, num(1))), api.ErrMany)
	wantCheck(t, api.Val{Kind: 9, N: 1, L: []api.Val{inSeals(100, num(1))}}, api.ErrMany)
	wantCheck(t, inSeals(100, api.Val{Kind: 9}), api.ErrMany)
}

func TestCheckKinds(t *testing.T) {
	for _, kind := range noKinds {
		for _, n := range []int64{0, 1, -1, math.MinInt64, math.MaxInt64} {
			for parts := range 4 {
				v := with(kind, parts)
				v.N = n
				wantCheck(t, v, api.ErrKind)
				wantCheck(t, seal(0, v), api.ErrKind)
				wantCheck(t, pair(num(0), v), api.ErrKind)
				wantCheck(t, pair(pair(v, num(1)), num(0)), api.ErrKind)
			}
		}
	}
}

func TestCheckParts(t *testing.T) {
	has := map[int]int{api.VPair: 2, api.VSeal: 1}
	for _, kind := range kinds {
		for parts := range 5 {
			want := api.ErrForm
			if parts == has[kind] {
				want = 0
			}
			wantCheck(t, with(kind, parts), want)
			wantCheck(t, seal(0, with(kind, parts)), want)
			wantCheck(t, pair(num(1), with(kind, parts)), want)
			wantCheck(t, pair(seal(2, with(kind, parts)), num(1)), want)
		}
		wantCheck(t, api.Val{Kind: kind, L: nil}, Check(api.Val{Kind: kind, L: []api.Val{}}))
	}
}

func TestCheckNumbers(t *testing.T) {
	numbers := []int64{
		0, 1, 2, 15, api.MaxPlugins, api.MaxGates, api.MaxNodes, 255, 256, 1 << 31, 1 << 32, math.MaxInt64 - 1, math.MaxInt64,
		-1, -2, -256, -1 << 31, -1 << 32, math.MinInt64 + 1, math.MinInt64,
	}
	for _, n := range numbers {
		zero, low := 0, 0
		if n != 0 {
			zero = api.ErrForm
		}
		if n < 0 {
			low = api.ErrRange
		}
		for _, c := range []struct {
			v    api.Val
			want int
		}{
			{api.Val{Kind: api.VNil, N: n}, zero},
			{api.Val{Kind: api.VPair, N: n, L: make([]api.Val, 2)}, zero},
			{num(n), 0},
			{seal(n, num(1)), low},
			{ability(n), low},
			{gate(n), low},
		} {
			wantCheck(t, c.v, c.want)
			wantCheck(t, seal(1, c.v), c.want)
			wantCheck(t, pair(pair(num(1), c.v), num(2)), c.want)
		}
	}
}

// Of one part that has several faults, the kind is told, then the form, then the range.
func TestCheckFirstOfOne(t *testing.T) {
	for _, c := range []struct {
		v    api.Val
		want int
	}{
		{api.Val{Kind: 6, N: -1, L: make([]api.Val, 3)}, api.ErrKind},
		{api.Val{Kind: -1, N: -1}, api.ErrKind},
		{api.Val{Kind: api.VSeal, N: -1}, api.ErrForm},
		{api.Val{Kind: api.VSeal, N: -1, L: make([]api.Val, 2)}, api.ErrForm},
		{api.Val{Kind: api.VCap, N: -1, L: make([]api.Val, 1)}, api.ErrForm},
		{api.Val{Kind: api.VGate, N: -1, L: make([]api.Val, 1)}, api.ErrForm},
		{api.Val{Kind: api.VNil, N: -1, L: make([]api.Val, 1)}, api.ErrForm},
	} {
		wantCheck(t, c.v, c.want)
	}
}

func TestCheckOuterFirstFromTheLeft(t *testing.T) {
	kind, form, low := api.Val{Kind: 6}, api.Val{N: 1}, ability(-1)
	for _, c := range []struct {
		v    api.Val
		want int
	}{
		{pair(kind, form), api.ErrKind},
		{pair(form, kind), api.ErrForm},
		{pair(low, kind), api.ErrRange},
		{pair(low, form), api.ErrRange},
		{pair(num(1), pair(low, kind)), api.ErrRange},
		{seal(-1, kind), api.ErrRange},
		{seal(-1, form), api.ErrRange},
		{api.Val{Kind: api.VPair, N: 1, L: []api.Val{kind, low}}, api.ErrForm},
		{api.Val{Kind: api.VPair, L: []api.Val{low, num(1), kind}}, api.ErrForm},
		{api.Val{Kind: api.VInt, L: []api.Val{kind}}, api.ErrForm},
		{api.Val{Kind: 7, L: []api.Val{form}}, api.ErrKind},
		{pair(pair(num(1), low), kind), api.ErrRange},
		{pair(seal(1, seal(2, form)), low), api.ErrForm},
		{pair(seal(-1, kind), form), api.ErrRange},
		{pair(pair(kind, low), seal(-1, num(1))), api.ErrKind},
	} {
		wantCheck(t, c.v, c.want)
	}
}

// What lies behind a list's length is no part of it.
func TestCheckLooksAtTheLengthAlone(t *testing.T) {
	l := make([]api.Val, 100)
	l[2].Kind = 77
	wantCheck(t, api.Val{Kind: api.VPair, L: l[:2]}, 0)
	wantCheck(t, api.Val{Kind: api.VInt, L: l[:0]}, 0)
	wantCheck(t, api.Val{Kind: api.VPair, L: l[:3]}, api.ErrForm)
}

func TestCheckEnds(t *testing.T) {
	smallStack(t)
	for _, v := range []api.Val{inSelf(1), inSelfTwice(), doubled(200, num(1)), inPairs(deep, num(1)), inSeals(deep, num(1))} {
		if code := Check(v); code != api.ErrMany {
			t.Errorf("Check = %d, want %d", code, api.ErrMany)
		}
	}
}

// various are things of which no two are the same; not all are values.
func various() []api.Val {
	return []api.Val{
		{}, {N: 1}, {N: -1}, num(0), num(1), num(-1), num(1 << 32), num(math.MinInt64), num(math.MaxInt64),
		ability(0), ability(1), gate(0), gate(1), {Kind: -1}, {Kind: 256}, {Kind: 1 << 32}, {Kind: math.MinInt},
		with(api.VNil, 1), with(api.VInt, 1), with(api.VInt, 2), with(api.VPair, 0), with(api.VPair, 1), with(api.VPair, 3),
		with(api.VSeal, 0), with(99, 1), with(99, 2), with(99, 1000), with(99, 1001),
		pair(num(1), num(2)), pair(num(2), num(1)), pair(num(1), num(3)), pair(num(1), ability(2)), pair(num(1), gate(2)),
		pair(api.Val{}, api.Val{}), pair(num(0), api.Val{}), pair(api.Val{}, num(0)),
		{Kind: api.VPair, N: 1, L: []api.Val{num(1), num(2)}},
		pair(pair(num(1), num(2)), num(3)), pair(num(1), pair(num(2), num(3))), pair(pair(num(2), num(1)), num(3)),
		seal(0, num(1)), seal(1, num(1)), seal(0, num(2)), seal(0, seal(0, num(1))), seal(0, seal(1, num(1))), seal(1, seal(0, num(1))),
		seal(0, pair(num(1), num(2))), pair(seal(0, num(1)), num(2)), pair(num(1), seal(0, num(2))),
		inSeals(30, num(1)), inSeals(30, num(2)), inSeals(31, num(1)), inSeals(30, seal(1, num(1))),
		inPairs(15, num(1)), inPairs(15, ability(1)), inPairs(16, num(1)), inPairs(15, pair(num(1), num(0))),
		inPairs(5000, num(1)), inPairs(5000, num(2)), inPairs(5001, num(1)),
	}
}

func TestSame(t *testing.T) {
	a, b := various(), various()
	for i := range a {
		for j := range b {
			if got := Same(a[i], b[j]); got != (i == j) {
				t.Errorf("Same of %d and %d: %v", i, j, got)
			}
		}
		if !Same(a[i], a[i]) {
			t.Errorf("%d is not the same as itself", i)
		}
	}
}

func TestSameNilAndEmpty(t *testing.T) {
	for _, kind := range append(slices.Clone(kinds), noKinds...) {
		a := api.Val{Kind: kind, N: 3, L: nil}
		b := api.Val{Kind: kind, N: 3, L: make([]api.Val, 0, 2)}
		if !Same(a, b) || !Same(b, a) || !Same(seal(1, a), seal(1, b)) || !Same(pair(b, a), pair(a, b)) {
			t.Errorf("kind %d: nil and empty are not the same", kind)
		}
	}
}

func TestSameLooksAtTheLengthAlone(t *testing.T) {
	a := []api.Val{num(1), num(2), num(3)}
	b := []api.Val{num(1), num(2), num(4), num(5)}
	if !Same(api.Val{L: a[:2]}, api.Val{L: b[:2]}) {
		t.Error("what lies behind the length was looked at")
	}
	if Same(api.Val{L: a}, api.Val{L: a[:2]}) || Same(api.Val{L: a[:2]}, api.Val{L: a}) {
		t.Error("lists of one memory, but not of one length, are the same")
	}
}

// Things that are deeper than calls can be open, or that are in themselves, or that have more parts than there is time for.
func TestSameEnds(t *testing.T) {
	smallStack(t)
	for _, c := range []struct {
		what string
		a, b api.Val
		want bool
	}{
		{"deep", inPairs(deep, num(1)), inPairs(deep, num(1)), true},
		{"deep, but for the last one", inPairs(deep, num(1)), inPairs(deep, num(2)), false},
		{"deep, but not as deep", inSeals(deep, num(1)), inSeals(deep+1, num(1)), false},
		{"wide", with(9, deep), with(9, deep), true},
		{"doubled", doubled(200, num(1)), doubled(200, num(1)), true},
		{"doubled, but for the last ones", doubled(200, num(1)), doubled(200, num(2)), false},
		{"in itself", inSelf(1), inSelf(1), true},
		{"in itself, in one more pair", inSelf(1), pair(num(1), inSelf(1)), true},
		{"in itself, in another pair", inSelf(1), pair(num(2), inSelf(1)), false},
		{"in itself, with another number", inSelf(1), inSelf(2), false},
		{"in itself, and not", inSelf(1), inPairs(10, num(1)), false},
		{"in itself twice", inSelfTwice(), inSelfTwice(), true},
		{"in itself twice, in one more pair", inSelfTwice(), pair(inSelfTwice(), inSelfTwice()), true},
		{"in itself twice, and once", inSelfTwice(), inSelf(1), false},
	} {
		if got := Same(c.a, c.b); got != c.want {
			t.Errorf("%s: %v", c.what, got)
		}
		if got := Same(c.b, c.a); got != c.want {
			t.Errorf("%s, the other way round: %v", c.what, got)
		}
	}
}

// lists tells the memory of all lists of a thing.
func lists(v api.Val) []*api.Val {
	var all []*api.Val
	var walk func(l []api.Val)
	walk = func(l []api.Val) {
		for i := range l {
			all = append(all, &l[i])
			walk(l[i].L)
		}
	}
	walk(v.L)
	return all
}

// plain makes empty lists nil, so that things can be held against each other as they lie in memory.
func plain(v api.Val) api.Val {
	if len(v.L) == 0 {
		v.L = nil
		return v
	}
	l := make([]api.Val, len(v.L))
	for i := range l {
		l[i] = plain(v.L[i])
	}
	v.L = l
	return v
}

func wantOwn(t *testing.T, what string, v api.Val) {
	t.Helper()
	before := copied(v)
	own := Own(v)
	if !reflect.DeepEqual(v, before) {
		t.Errorf("%s: Own changed what was handed in", what)
	}
	if !reflect.DeepEqual(plain(own), plain(v)) {
		t.Errorf("%s: Own answered another one: %.200v", what, own)
	}
	given := lists(v)
	met := make(map[*api.Val]bool)
	for _, p := range lists(own) {
		if met[p] {
			t.Errorf("%s: two lists of the answer share memory", what)
		}
		met[p] = true
	}
	for _, p := range given {
		if met[p] {
			t.Errorf("%s: the answer shares memory with what was handed in", what)
		}
	}
}

func TestOwn(t *testing.T) {
	for i, v := range various() {
		wantOwn(t, fmt.Sprint(i), v)
	}
	both := pair(num(1), seal(2, ability(3)))
	for i, v := range []api.Val{
		{Kind: api.VInt, N: 3, L: []api.Val{}}, seal(1, api.Val{L: []api.Val{}}), {L: make([]api.Val, 0, 5)},
		pair(both, both), pair(seal(1, both), both), seal(7, pair(both, pair(both, both))), doubled(8, both),
	} {
		wantOwn(t, fmt.Sprint("further ", i), v)
	}
}

func TestOwnIsNotChangedByWhatWasHandedIn(t *testing.T) {
	v := pair(seal(2, pair(ability(7), num(1))), pair(gate(1), num(-5)))
	own := Own(v)
	*part(&v, 0, 0, 0) = gate(3)
	part(&v, 0).N = 9
	part(&v, 1, 1).N = 8
	v.L[1].L[0], v.L[1].L[1] = v.L[1].L[1], v.L[1].L[0]
	v.L[1] = api.Val{}
	v.N = 4
	if want := "([2 (#7 1)] (!1 -5))"; Text(own) != want {
		t.Errorf("%s, want %s", Text(own), want)
	}
}

func TestOwnMayBeChanged(t *testing.T) {
	inner := pair(num(1), num(2))
	v := pair(inner, seal(2, inner))
	first, second := Own(v), Own(v)
	*part(&first, 0, 0) = gate(1)
	part(&first, 1, 0, 1).N = 5
	part(&first, 1).N = 6
	first.L = append(first.L, num(1))
	first.L[0].L = append(first.L[0].L, num(1))
	for _, u := range []api.Val{v, second} {
		if want := "((1 2) [2 (1 2)])"; Text(u) != want {
			t.Errorf("%s, want %s", Text(u), want)
		}
	}
	if got := Text(*part(&first, 1)); got != "[6 (1 5)]" {
		t.Errorf("%s: two lists of one answer share memory", got)
	}
}

func TestOwnLeavesWhatIsBehindTheLength(t *testing.T) {
	l := []api.Val{num(1), num(2), num(3), num(4)}
	own := Own(api.Val{Kind: api.VPair, L: l[:2]})
	own.L = append(own.L, num(9))
	own = Own(api.Val{Kind: api.VInt, L: l[:0]})
	own.L = append(own.L, num(9))
	if got := fmt.Sprint(l); got != fmt.Sprint([]api.Val{num(1), num(2), num(3), num(4)}) {
		t.Errorf("the memory is %s now", got)
	}
}

// Of what is deeper than calls can be open each list is made anew.
func TestOwnOfDeep(t *testing.T) {
	smallStack(t)
	for _, v := range []api.Val{inPairs(deep, num(1)), inSeals(deep, num(1)), with(9, deep)} {
		own := Own(v)
		if !Same(own, v) {
			t.Error("Own answered another one")
		}
		for a, b := own, v; len(a.L) > 0; a, b = a.L[0], b.L[0] {
			if &a.L[0] == &b.L[0] {
				t.Fatal("the answer shares memory with what was handed in")
			}
		}
	}
}

// There is an end to it, also of what has no end or more parts than there is room for.
func TestOwnEnds(t *testing.T) {
	l := []api.Val{num(1), {Kind: api.VPair}, {Kind: api.VSeal}}
	l[1].L, l[2].L = l, l[:1]
	for i, v := range []api.Val{inSelf(1), doubled(200, num(1)), pair(inSelf(2), inSelf(1)), l[1]} {
		own := Own(v)
		if !Same(own, v) {
			t.Errorf("%d: Own answered another one", i)
		}
		for a, b, n := own, v, 0; len(a.L) > 0 && n < 1000; a, b, n = a.L[len(a.L)-1], b.L[len(b.L)-1], n+1 {
			if &a.L[0] == &b.L[0] {
				t.Fatalf("%d: the answer shares memory with what was handed in", i)
			}
		}
	}
}

func TestCaps(t *testing.T) {
	for _, c := range []struct {
		v    api.Val
		want []int
	}{
		{api.Val{}, nil},
		{num(3), nil},
		{gate(3), nil},
		{seal(3, num(4)), nil},
		{pair(gate(1), seal(2, gate(0))), nil},
		{ability(0), []int{0}},
		{ability(7), []int{7}},
		{ability(math.MaxInt64), []int{math.MaxInt}},
		{api.Val{Kind: api.VCap, N: 4, L: []api.Val{}}, []int{4}},
		{seal(5, ability(7)), []int{7}},
		{seal(5, seal(6, ability(7))), []int{7}},
		{pair(ability(2), ability(1)), []int{2, 1}},
		{pair(ability(1), ability(2)), []int{1, 2}},
		{pair(ability(3), ability(3)), []int{3, 3}},
		{pair(num(9), ability(1)), []int{1}},
		{pair(pair(ability(4), ability(5)), ability(3)), []int{4, 5, 3}},
		{pair(ability(4), pair(ability(5), ability(3))), []int{4, 5, 3}},
		{pair(seal(1, pair(ability(8), gate(2))), pair(seal(0, ability(6)), pair(num(5), ability(8)))), []int{8, 6, 8}},
		{inSeals(api.MaxValue-1, ability(9)), []int{9}},
		{inPairs(api.MaxValue/2-1, ability(9)), []int{9}},
		{doubled(4, ability(2)), slices.Repeat([]int{2}, 16)},
	} {
		if got := Caps(c.v); !slices.Equal(got, c.want) {
			t.Errorf("Caps of %s: %v, want %v", Text(c.v), got, c.want)
		}
	}
}

func TestCapsAreNewEachTime(t *testing.T) {
	v := pair(ability(1), ability(2))
	first, second := Caps(v), Caps(v)
	first[0], first[1] = 8, 9
	if !slices.Equal(second, []int{1, 2}) || !slices.Equal(Caps(v), []int{1, 2}) {
		t.Error("what was answered is not memory of its own")
	}
}

func TestGates(t *testing.T) {
	for _, c := range []struct {
		v    api.Val
		want bool
	}{
		{api.Val{}, false},
		{num(api.VGate), false},
		{ability(5), false},
		{seal(api.VGate, num(5)), false},
		{pair(num(5), ability(5)), false},
		{doubled(4, ability(2)), false},
		{gate(0), true},
		{gate(math.MaxInt64), true},
		{api.Val{Kind: api.VGate, L: []api.Val{}}, true},
		{seal(1, gate(0)), true},
		{seal(1, seal(0, seal(1, gate(3)))), true},
		{pair(gate(0), num(1)), true},
		{pair(num(1), gate(0)), true},
		{pair(num(1), pair(pair(ability(1), seal(2, pair(gate(3), num(1)))), num(2))), true},
		{pair(pair(num(1), num(2)), pair(num(3), seal(1, pair(num(4), gate(1))))), true},
		{inSeals(api.MaxValue-1, gate(0)), true},
		{inPairs(api.MaxValue/2-1, gate(0)), true},
		{inPairs(api.MaxValue/2-1, ability(0)), false},
	} {
		if got := Gates(c.v); got != c.want {
			t.Errorf("Gates of %s: %v", Text(c.v), got)
		}
	}
}

func TestText(t *testing.T) {
	for _, c := range []struct {
		v    api.Val
		want string
	}{
		{api.Val{}, "nil"},
		{api.Val{L: []api.Val{}}, "nil"},
		{num(0), "0"},
		{num(7), "7"},
		{num(-5), "-5"},
		{num(math.MinInt64), "-9223372036854775808"},
		{num(math.MaxInt64), "9223372036854775807"},
		{pair(api.Val{}, api.Val{}), "(nil nil)"},
		{pair(num(1), num(-2)), "(1 -2)"},
		{pair(pair(num(1), num(2)), num(3)), "((1 2) 3)"},
		{pair(num(1), pair(num(2), num(3))), "(1 (2 3))"},
		{seal(0, api.Val{}), "[0 nil]"},
		{seal(3, num(-4)), "[3 -4]"},
		{seal(math.MaxInt64, num(1)), "[9223372036854775807 1]"},
		{seal(1, seal(2, pair(num(3), num(4)))), "[1 [2 (3 4)]]"},
		{ability(0), "#0"},
		{ability(math.MaxInt64), "#9223372036854775807"},
		{gate(0), "!0"},
		{gate(math.MaxInt64), "!9223372036854775807"},
		{pair(seal(2, ability(7)), pair(gate(1), num(-5))), "([2 #7] (!1 -5))"},
		{inSeals(api.MaxValue-1, num(1)), strings.Repeat("[0 ", api.MaxValue-1) + "1" + strings.Repeat("]", api.MaxValue-1)},
		{inPairs(api.MaxValue/2-1, gate(1)), strings.Repeat("(", api.MaxValue/2-1) + "!1" + strings.Repeat(" nil)", api.MaxValue/2-1)},
	} {
		if got := Text(c.v); got != c.want {
			t.Errorf("Text = %q, want %q", got, c.want)
		}
	}
}

// What is no value has no answer that is promised; but there is one, and no panic.
func TestAskedOfNoValue(t *testing.T) {
	wrong := append(various(), inSelf(1), inSelfTwice(), doubled(200, ability(1)), inPairs(deep, gate(1)), seal(-1, ability(1)), pair(gate(1), ability(-1)))
	for i, v := range wrong {
		if Check(v) == 0 {
			continue
		}
		if Caps(v) != nil || Gates(v) || Text(v) != "" {
			t.Errorf("%d: something is told of what is no value", i)
		}
	}
}

// random tells a value of so many parts.
func random(r *rand.Rand, parts int) api.Val {
	switch {
	case parts == 1:
		return []api.Val{{}, num(r.Int63n(4) - 1), ability(r.Int63n(3)), gate(r.Int63n(3))}[r.Intn(4)]
	case parts == 2 || r.Intn(4) == 0:
		return seal(r.Int63n(3), random(r, parts-1))
	}
	left := 1 + r.Intn(parts-2)
	return pair(random(r, left), random(r, parts-1-left))
}

// Two values are the same, if they are told alike.
func TestSameAndTextGoTogether(t *testing.T) {
	r := rand.New(rand.NewSource(4))
	alike := 0
	for range 40000 {
		a := random(r, 1+r.Intn(5))
		b := random(r, 1+r.Intn(5))
		told := Text(a) == Text(b)
		if told {
			alike++
		}
		if Same(a, b) != told {
			t.Fatalf("%s and %s: Same is %v", Text(a), Text(b), !told)
		}
	}
	if alike < 100 {
		t.Errorf("only %d were alike", alike)
	}
}

// What a value tells is what its text tells: the capabilities are the numbers behind #, a gate is behind !.
func TestValuesAgreeWithTheirTexts(t *testing.T) {
	r := rand.New(rand.NewSource(5))
	for range 5000 {
		v := random(r, 1+r.Intn(api.MaxValue))
		wantCheck(t, v, 0)
		wantOwn(t, Text(v), v)
		text := Text(v)
		var caps []int
		for i := range text {
			if text[i] == '#' {
				caps = append(caps, int(text[i+1]-'0'))
			}
		}
		if !slices.Equal(Caps(v), caps) || Gates(v) != strings.Contains(text, "!") {
			t.Fatalf("%s: %v, %v", text, Caps(v), Gates(v))
		}
	}
}

// One part of a value is spoilt: its fault is told, if there is none ahead of it; and it is the same no longer.
func TestOneIsSpoilt(t *testing.T) {
	r := rand.New(rand.NewSource(6))
	for range 5000 {
		v := random(r, 2+r.Intn(api.MaxValue-2))
		spoilt := Own(v)
		parts := lists(spoilt)
		a, b := r.Intn(len(parts)), r.Intn(len(parts))
		if a > b {
			a, b = b, a
		}
		*parts[b] = api.Val{Kind: api.VCap, N: -1 - r.Int63n(3)}
		want := api.ErrRange
		if a < b {
			parts[a].Kind = api.VGate + 1 + r.Intn(3)
			want = api.ErrKind
		}
		wantCheck(t, spoilt, want)
		wantCheck(t, v, 0)
		if Same(v, spoilt) || Same(spoilt, v) {
			t.Fatalf("%s is the same as %v", Text(v), spoilt)
		}
	}
}
