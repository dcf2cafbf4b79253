package tree

import (
	"runtime/debug"
	"slices"
	"testing"
)

type thing struct {
	n int
	l []thing
}

func inside(t thing) []thing { return t.l }

func withInside(t thing, l []thing) thing {
	t.l = l
	return t
}

func alike(a, b thing) bool { return a.n == b.n }

func of(n int, l ...thing) thing { return thing{n, l} }

// inChain tells a thing that stands in so many others, each in the next one.
func inChain(depth int, t thing) thing {
	for range depth {
		t = of(0, t)
	}
	return t
}

// doubled tells a thing of which every list stands in memory once, and is there twice as often as that around it.
func doubled(depth int, t thing) thing {
	for range depth {
		t = of(0, t, t)
	}
	return t
}

// inSelf tells a list of so many things, each of which has that list in it.
func inSelf(size, n int) []thing {
	l := make([]thing, size)
	for i := range l {
		l[i] = of(n, l...)
	}
	return l
}

// steps tells a list in which each thing has those ahead of it in it, all in one memory.
func steps(size int) []thing {
	l := make([]thing, size)
	for i := range l {
		l[i] = of(i, l[:i]...)
	}
	return l
}

// deep is deeper than calls can be open, where the stack is small.
const deep = 300000

func smallStack(t *testing.T) {
	before := debug.SetMaxStack(1 << 20)
	t.Cleanup(func() { debug.SetMaxStack(before) })
}

func TestHasMore(t *testing.T) {
	smallStack(t)
	for _, c := range []struct {
		what   string
		l      []thing
		things int
	}{
		{"nil", nil, 0},
		{"empty", []thing{}, 0},
		{"one", []thing{of(1)}, 1},
		{"three", []thing{of(1), of(1), of(1)}, 3},
		{"in one another", []thing{of(1, of(2, of(3))), of(4)}, 4},
		{"at the right", []thing{of(1), of(2, of(3), of(4, of(5), of(6)))}, 6},
		{"shared", []thing{doubled(4, of(1))}, 31},
		{"in steps", steps(6), 63},
		{"a chain", []thing{inChain(deep, of(1))}, deep + 1},
		{"wide", make([]thing, deep), deep},
	} {
		for _, than := range []int{c.things - 2, c.things - 1, c.things, c.things + 1} {
			if got := HasMore(c.l, than, inside); got != (c.things > than) {
				t.Errorf("%s: more than %d: %v", c.what, than, got)
			}
		}
	}
}

func TestHasMoreEnds(t *testing.T) {
	for _, l := range [][]thing{inSelf(1, 0), inSelf(2, 0), inSelf(5000, 0), {doubled(200, of(1))}} {
		for _, than := range []int{0, 1, 40, 1 << 20} {
			if !HasMore(l, than, inside) {
				t.Errorf("%d things, and no more than %d", len(l), than)
			}
		}
	}
}

func TestIsDeeper(t *testing.T) {
	smallStack(t)
	for _, c := range []struct {
		what string
		l    []thing
		deep int // -1: nothing is there
	}{
		{"nil", nil, -1},
		{"one", []thing{of(1)}, 0},
		{"wide", make([]thing, 1000), 0},
		{"two", []thing{of(1, of(2))}, 1},
		{"at the left", []thing{inChain(7, of(1)), of(2)}, 7},
		{"at the right", []thing{of(2), of(1, of(3), inChain(7, of(1)))}, 8},
		{"shared", []thing{doubled(30, of(1))}, 30},
		{"shared at two depths", []thing{of(0, doubled(20, of(1)), of(0, of(0, doubled(20, of(1)))))}, 23},
		{"in steps", steps(30), 29},
		{"a chain", []thing{inChain(1000, of(1))}, 1000},
	} {
		for than := max(0, c.deep-1); than <= c.deep+1; than++ {
			if got := IsDeeper(c.l, than, inside); got != (c.deep > than) {
				t.Errorf("%s: deeper than %d: %v", c.what, than, got)
			}
		}
	}
}

// A list that is met at two levels is to be followed from both.
func TestIsDeeperTakesAListAtEachLevel(t *testing.T) {
	shared := inChain(3, of(1))
	l := []thing{of(0, shared, of(0, of(0, shared)))}
	if !IsDeeper(l, 5, inside) || IsDeeper(l, 6, inside) {
		t.Error("the deepest one stands in six others")
	}
}

func TestIsDeeperEnds(t *testing.T) {
	smallStack(t)
	for i, l := range [][]thing{inSelf(1, 0), inSelf(2, 0), inSelf(5000, 0), {doubled(200, of(1))}, {inChain(deep, of(1))}} {
		if !IsDeeper(l, 30, inside) {
			t.Errorf("%d: not deeper than 30", i)
		}
	}
}

func TestSearch(t *testing.T) {
	tree := of(1, of(2, of(3), of(4)), of(5), of(6, of(7, of(8)), of(9)))
	for stop := range 11 {
		var met, want []int
		found := Search(tree, inside, func(t thing) bool {
			met = append(met, t.n)
			return t.n == stop
		})
		last := stop
		if stop == 0 || stop == 10 {
			last = 9
		}
		for n := range last {
			want = append(want, n+1)
		}
		if found != (stop >= 1 && stop <= 9) || !slices.Equal(met, want) {
			t.Errorf("until %d: %v, %v", stop, met, found)
		}
	}
}

func TestSearchOfDeep(t *testing.T) {
	smallStack(t)
	if !Search(inChain(deep, of(1)), inside, func(t thing) bool { return t.n == 1 }) {
		t.Error("the innermost one was not found")
	}
}

func TestSame(t *testing.T) {
	smallStack(t)
	all := func() [][]thing {
		return [][]thing{
			nil, {of(1)}, {of(2)}, {of(1), of(1)}, {of(1), of(2)}, {of(2), of(1)}, {of(1, of(1))}, {of(1, of(2))}, {of(1), of(1, of(1))}, {of(1, of(1)), of(1)},
			{doubled(8, of(1))}, {doubled(8, of(2))}, {doubled(200, of(1))}, {doubled(200, of(2))}, {doubled(200, of(0))},
			{inChain(deep, of(1))}, {inChain(deep, of(2))}, {inChain(deep+1, of(1))}, make([]thing, deep), make([]thing, deep+1),
			inSelf(1, 1), inSelf(1, 2), inSelf(2, 1), inSelf(2, 2), inSelf(5000, 1), inSelf(5001, 1), inSelf(5000, 2), steps(15), steps(16),
		}
	}
	a, b := all(), all()
	for i := range a {
		for j := range b {
			if got := Same(a[i], b[j], inside, alike); got != (i == j) {
				t.Errorf("%d and %d: %v", i, j, got)
			}
		}
	}
	if !Same(nil, []thing{}, inside, alike) || !Same([]thing{{1, nil}}, []thing{{1, []thing{}}}, inside, alike) {
		t.Error("nil and empty are not the same")
	}
}

// Two that part only behind more than there is patience for.
func TestSameLooksFar(t *testing.T) {
	for _, size := range []int{1000, patience - 2, patience - 1, patience, patience + 1, 2*patience + 5} {
		for _, at := range []int{0, size / 2, size - 1} {
			a, b := make([]thing, size), make([]thing, size)
			a[at], b[at] = of(0, of(1)), of(0, of(1))
			if !Same(a, b, inside, alike) {
				t.Errorf("%d things: they are the same", size)
			}
			b[at] = of(0, of(2))
			if Same(a, b, inside, alike) {
				t.Errorf("%d things: they part at %d", size, at)
			}
			b[at] = of(0)
			if Same(a, b, inside, alike) || Same(b, a, inside, alike) {
				t.Errorf("%d things: there is none in that at %d", size, at)
			}
		}
	}
}

func TestOwn(t *testing.T) {
	both := of(1, of(2), of(3, of(4)))
	for i, l := range [][]thing{
		nil, {}, {of(1)}, {of(1), of(2)}, {both, both}, {of(1, both, of(2, both)), both}, {doubled(10, both)}, steps(12), {{1, []thing{}}},
	} {
		own := Own(l, inside, withInside)
		if !Same(own, l, inside, alike) {
			t.Errorf("%d: another one", i)
		}
		met := make(map[*thing]bool)
		var walk func(l []thing)
		walk = func(l []thing) {
			for i := range l {
				met[&l[i]] = true
				walk(l[i].l)
			}
		}
		walk(l)
		given := len(met)
		walk(own)
		things := 0
		for HasMore(own, things, inside) {
			things++
		}
		if len(met) != given+things {
			t.Errorf("%d: memory is shared: %d of %d are new", i, len(met)-given, things)
		}
	}
}

func TestOwnEnds(t *testing.T) {
	smallStack(t)
	shared := steps(3)
	shared[0].l, shared[1].l, shared[2].l = shared, shared[:1], shared[1:]
	for i, l := range [][]thing{{inChain(deep, of(1))}, {doubled(200, of(1))}, inSelf(1, 2), inSelf(2, 1), inSelf(5000, 3), shared} {
		own := Own(l, inside, withInside)
		if !Same(own, l, inside, alike) {
			t.Errorf("%d: another one", i)
		}
		for a, b, n := own, l, 0; len(a) > 0 && n < 1000; a, b, n = a[n%len(a)].l, b[n%len(b)].l, n+1 {
			if &a[0] == &b[0] {
				t.Fatalf("%d: memory is shared with what was handed in", i)
			}
		}
	}
}

func TestIsTooMuch(t *testing.T) {
	cycle := inSelf(1, 0)
	for _, c := range []struct {
		what string
		l    []thing
		want bool
	}{
		{"empty", nil, false},
		{"one", []thing{of(1)}, false},
		{"wide", make([]thing, 1000), false},
		{"a chain", []thing{inChain(1000, of(1))}, false},
		{"shared, and as much as can be", []thing{doubled(25, of(1)), of(2)}, false},
		{"shared, and one more", []thing{doubled(25, of(1)), of(2), of(3)}, true},
		{"shared at many depths", steps(26), false},
		{"shared at many depths, and as much as can be", []thing{of(0, steps(26)...)}, false},
		{"shared at many depths, and one more", []thing{of(0, steps(26)...), of(1)}, true},
		{"shared far too often", []thing{doubled(200, of(1))}, true},
		{"the list is in itself", cycle, true},
		{"something in it is in itself", []thing{of(1), of(2, of(3, cycle...))}, true},
		{"in itself beside much that is not", []thing{doubled(10, of(1)), of(2, inSelf(3, 1)...)}, true},
	} {
		if got := isTooMuch(c.l, inside); got != c.want {
			t.Errorf("%s: %v", c.what, got)
		}
	}
}

// Of what is shared more often than there is patience for, but not too much, each list is made anew.
func TestOwnOfMuch(t *testing.T) {
	own := Own([]thing{doubled(18, of(1))}, inside, withInside)
	met := make(map[*thing]struct{})
	todo := []*thing{&own[0]}
	for len(todo) > 0 {
		top := todo[len(todo)-1]
		todo = todo[:len(todo)-1]
		met[top] = struct{}{}
		for i := range top.l {
			todo = append(todo, &top.l[i])
		}
	}
	if want := 1<<19 - 1; len(met) != want {
		t.Errorf("%d things in memory, want %d", len(met), want)
	}
}
