package world

import (
	"math"
	"slices"
	"testing"

	"letterlock/api"
)

// absent are numbers of which no cell is: just outside, and far outside, some of which are a cell's number in their low bits.
var absent = []int{
	math.MinInt, math.MinInt + 1, -1 << 32, -api.MaxCells, -2, -1,
	api.MaxCells, api.MaxCells + 1, 255, 256, 1 << 32, 1<<32 + 3, math.MaxInt - 1, math.MaxInt,
}

// anyone are numbers that a plugin or a node may have: all.
var anyone = []int{math.MinInt, -1, 0, 1, api.MaxPlugins, api.MaxNodes, math.MaxInt}

func wantCells(t *testing.T, w *World, want [api.MaxCells]int64) {
	t.Helper()
	if got := w.Cells(); !slices.Equal(got, want[:]) {
		t.Errorf("Cells() = %v, want %v", got, want)
	}
}

func wantLog(t *testing.T, w *World, want ...api.Entry) {
	t.Helper()
	if got := w.Log(); !slices.Equal(got, want) {
		t.Errorf("Log() = %v, want %v", got, want)
	}
}

func wantRead(t *testing.T, w *World, plugin, cell, node int, want int64) {
	t.Helper()
	if n, ok := w.Read(plugin, cell, node); n != want || !ok {
		t.Errorf("Read(%d, %d, %d) = %d, %v, want %d, true", plugin, cell, node, n, ok, want)
	}
}

func write(t *testing.T, w *World, plugin, cell, node int, n int64) {
	t.Helper()
	if !w.Write(plugin, cell, node, n) {
		t.Errorf("Write(%d, %d, %d, %d) is false", plugin, cell, node, n)
	}
}

func TestHas(t *testing.T) {
	for cell := range api.MaxCells {
		if !Has(cell) {
			t.Errorf("Has(%d) is false", cell)
		}
	}
	for _, cell := range absent {
		if Has(cell) {
			t.Errorf("Has(%d) is true", cell)
		}
	}
}

func TestNewHoldsNothing(t *testing.T) {
	w := New()
	wantCells(t, w, [api.MaxCells]int64{})
	wantLog(t, w)
	for cell := range api.MaxCells {
		wantRead(t, New(), 0, cell, 0, 0)
	}
}

func TestWorldsAreApart(t *testing.T) {
	a, b := New(), New()
	write(t, a, 1, 2, 3, 4)
	wantRead(t, b, 5, 2, 6, 0)
	wantCells(t, a, [api.MaxCells]int64{2: 4})
	wantCells(t, b, [api.MaxCells]int64{})
	wantLog(t, a, api.Entry{Plugin: 1, Cell: 2, Right: api.RWrite, Node: 3})
	wantLog(t, b, api.Entry{Plugin: 5, Cell: 2, Right: api.RRead, Node: 6})
	wantCells(t, New(), [api.MaxCells]int64{})
	wantLog(t, New())
}

func TestSteps(t *testing.T) {
	w := New()
	write(t, w, 1, 2, 3, 40)
	wantRead(t, w, 2, 2, 4, 40)
	wantRead(t, w, 3, 1, 5, 0)
	write(t, w, 4, 2, 6, -7)
	write(t, w, 5, 1, 7, 9)
	wantRead(t, w, 6, 2, 8, -7)
	wantRead(t, w, 6, 2, 8, -7)
	write(t, w, 7, 2, 9, 0)
	wantRead(t, w, 8, 2, 10, 0)
	wantRead(t, w, 9, 1, 11, 9)
	wantCells(t, w, [api.MaxCells]int64{1: 9})
	wantLog(t, w,
		api.Entry{Plugin: 1, Cell: 2, Right: api.RWrite, Node: 3},
		api.Entry{Plugin: 2, Cell: 2, Right: api.RRead, Node: 4},
		api.Entry{Plugin: 3, Cell: 1, Right: api.RRead, Node: 5},
		api.Entry{Plugin: 4, Cell: 2, Right: api.RWrite, Node: 6},
		api.Entry{Plugin: 5, Cell: 1, Right: api.RWrite, Node: 7},
		api.Entry{Plugin: 6, Cell: 2, Right: api.RRead, Node: 8},
		api.Entry{Plugin: 6, Cell: 2, Right: api.RRead, Node: 8},
		api.Entry{Plugin: 7, Cell: 2, Right: api.RWrite, Node: 9},
		api.Entry{Plugin: 8, Cell: 2, Right: api.RRead, Node: 10},
		api.Entry{Plugin: 9, Cell: 1, Right: api.RRead, Node: 11},
	)
}

func TestEachCellStandsAlone(t *testing.T) {
	for cell := range api.MaxCells {
		w := New()
		write(t, w, 0, cell, 0, 5)
		want := [api.MaxCells]int64{}
		want[cell] = 5
		wantCells(t, w, want)
		for other := range api.MaxCells {
			wantRead(t, w, 0, other, 0, want[other])
		}
	}
}

func TestCellsHoldAnyNumber(t *testing.T) {
	for _, cell := range []int{0, api.MaxCells - 1} {
		for _, n := range []int64{math.MinInt64, math.MinInt64 + 1, -1 << 32, -1, 0, 1, 1<<53 + 1, math.MaxInt64 - 1, math.MaxInt64} {
			w := New()
			write(t, w, 1, cell, 2, n)
			wantRead(t, w, 1, cell, 2, n)
			if got := w.Cells()[cell]; got != n {
				t.Errorf("Cells()[%d] = %d, want %d", cell, got, n)
			}
		}
	}
}

func TestSameNumberIsAnEntryToo(t *testing.T) {
	w := New()
	write(t, w, 1, 0, 2, 0)
	write(t, w, 1, 0, 2, 0)
	e := api.Entry{Plugin: 1, Cell: 0, Right: api.RWrite, Node: 2}
	wantLog(t, w, e, e)
}

func TestAnyPluginAndNode(t *testing.T) {
	w := New()
	var want []api.Entry
	for _, plugin := range anyone {
		for _, node := range anyone {
			write(t, w, plugin, 0, node, 6)
			wantRead(t, w, plugin, 0, node, 6)
			want = append(want,
				api.Entry{Plugin: plugin, Cell: 0, Right: api.RWrite, Node: node},
				api.Entry{Plugin: plugin, Cell: 0, Right: api.RRead, Node: node},
			)
		}
	}
	wantLog(t, w, want...)
}

func TestNoSuchCell(t *testing.T) {
	fresh, used := New(), New()
	write(t, used, 1, 0, 2, 3)
	write(t, used, 1, api.MaxCells-1, 2, 4)
	log := used.Log()
	for _, cell := range absent {
		for _, who := range anyone {
			for _, w := range []*World{fresh, used} {
				if n, ok := w.Read(who, cell, who); n != 0 || ok {
					t.Errorf("Read(%d, %d, %d) = %d, %v, want 0, false", who, cell, who, n, ok)
				}
				if w.Write(who, cell, who, 5) {
					t.Errorf("Write(%d, %d, %d, 5) is true", who, cell, who)
				}
			}
		}
	}
	wantCells(t, fresh, [api.MaxCells]int64{})
	wantLog(t, fresh)
	wantCells(t, used, [api.MaxCells]int64{0: 3, api.MaxCells - 1: 4})
	wantLog(t, used, log...)
	// What was refused leaves no trace in what comes behind it.
	wantRead(t, used, 6, 0, 7, 3)
	wantLog(t, used, append(log, api.Entry{Plugin: 6, Cell: 0, Right: api.RRead, Node: 7})...)
}

func TestTellingIsNotEntered(t *testing.T) {
	w := New()
	write(t, w, 1, 0, 2, 3)
	for range 3 {
		w.Cells()
		w.Log()
		Has(0)
	}
	wantCells(t, w, [api.MaxCells]int64{0: 3})
	wantLog(t, w, api.Entry{Plugin: 1, Cell: 0, Right: api.RWrite, Node: 2})
}

func TestCellsAreNewMemory(t *testing.T) {
	w := New()
	write(t, w, 1, 0, 2, 3)
	mine, other := w.Cells(), w.Cells()
	for i := range mine {
		mine[i] = 77
	}
	_ = append(mine[:0], 78, 79)
	wantCells(t, w, [api.MaxCells]int64{0: 3})
	wantRead(t, w, 1, 0, 2, 3)
	wantRead(t, w, 1, 1, 2, 0)
	write(t, w, 1, 0, 2, 4)
	if other[0] != 3 || other[1] != 0 {
		t.Errorf("an earlier answer of Cells became %v", other)
	}
}

func TestLogIsNewMemory(t *testing.T) {
	foul := api.Entry{Plugin: 9, Cell: 9, Right: 9, Node: 9}
	// All lengths up to 40: whether memory is shared may hang on the room that a list has left.
	for length := range 40 {
		w := New()
		var want []api.Entry
		for i := range length {
			write(t, w, i, 0, i, 1)
			want = append(want, api.Entry{Plugin: i, Cell: 0, Right: api.RWrite, Node: i})
		}
		mine, other := w.Log(), w.Log()
		grown := append(w.Log(), foul)
		for i := range mine {
			mine[i] = foul
		}
		mine = append(mine, foul)
		wantLog(t, w, want...)
		wantRead(t, w, 5, 0, 6, min(int64(length), 1))
		last := api.Entry{Plugin: 5, Cell: 0, Right: api.RRead, Node: 6}
		wantLog(t, w, append(want, last)...)
		if !slices.Equal(other, want) {
			t.Errorf("an earlier answer of Log became %v, want %v", other, want)
		}
		if mine[length] != foul || grown[length] != foul {
			t.Errorf("the world wrote behind an answer of Log of length %d", length)
		}
	}
}

func TestLongLog(t *testing.T) {
	w := New()
	const steps = 10000
	for i := range steps {
		write(t, w, i, i%api.MaxCells, -i, int64(i))
	}
	log := w.Log()
	if len(log) != steps {
		t.Fatalf("%d entries, want %d", len(log), steps)
	}
	for i, e := range log {
		if want := (api.Entry{Plugin: i, Cell: i % api.MaxCells, Right: api.RWrite, Node: -i}); e != want {
			t.Fatalf("entry %d is %v, want %v", i, e, want)
		}
	}
}
