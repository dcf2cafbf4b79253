package desk

import (
	"fmt"
	"slices"
	"strings"
	"testing"

	"letterlock/api"
)

// told tells what a desk tells of lines, by which no fault may come.
func told(t *testing.T, d *Desk, lines ...string) string {
	t.Helper()
	s, f := d.Do(lines)
	if f != (api.Fault{}) {
		t.Fatalf("%s: the fault %v", short(lines...), f)
	}
	return s
}

// short tells lines, unless that is too much to read.
func short(lines ...string) string {
	s := fmt.Sprintf("%q", lines)
	if len(s) > 300 {
		return fmt.Sprintf("%s.. (%d lines)", s[:300], len(lines))
	}
	return s
}

// said is a line, and what is told of it, but for the last newline; of an empty text nothing is told.
type said struct{ line, told string }

func (s said) text() string {
	if s.told == "" {
		return ""
	}
	return s.told + "\n"
}

// wantTalk asks for what a new desk tells of each line: line by line, and of as many at once as may be.
func wantTalk(t *testing.T, talk ...said) {
	t.Helper()
	d := New()
	for i, s := range talk {
		if got := told(t, d, s.line); got != s.text() {
			t.Errorf("line %d, %s: %q, want %q", i, short(s.line), got, s.text())
		}
	}
	d = New()
	for some := range slices.Chunk(talk, api.MaxLines) {
		var lines []string
		all := ""
		for _, s := range some {
			lines = append(lines, s.line)
			all += s.text()
		}
		if got := told(t, d, lines...); got != all {
			t.Errorf("%s: %q, want %q", short(lines...), got, all)
		}
	}
}

// quiet tells lines of which nothing is told.
func quiet(lines ...string) []said {
	var l []said
	for _, line := range lines {
		l = append(l, said{line, ""})
	}
	return l
}

// module tells how a plugin is loaded of a text, and that the text is gone then.
func module(p int, lines ...string) []said {
	var l []said
	for _, line := range lines {
		l = append(l, said{"|" + line, ""})
	}
	return append(l, said{fmt.Sprint("load ", p), "yes nil"}, said{"new", ""})
}

// again tells a line many times, of which the same is told.
func again(many int, line, told string) []said {
	return slices.Repeat([]said{{line, told}}, many)
}

// noughts are what the cells hold at first.
const noughts = "cells 0 0 0 0 0 0 0 0 0 0 0 0"

// state tells all that can be asked of a desk without a step, and what is loaded.
func state(t *testing.T, d *Desk) string {
	t.Helper()
	s := told(t, d, "hand 0", "hand 1", "hand 2", "hand 3", "kept 0", "kept 1", "kept 2", "kept 3", "log", "cells")
	for k := 0; d.Has(k); k++ {
		s += fmt.Sprintln("gate", k, d.Open(k))
	}
	for _, p := range d.Plugins {
		s += fmt.Sprintln("plugin", p.There, p.Code)
	}
	m, f := d.module()
	return s + fmt.Sprintln("nodes", d.Nodes(), "text", m, f)
}

func TestNew(t *testing.T) {
	wantTalk(t,
		said{"hand 0", "hand"}, said{"hand 3", "hand"}, said{"kept 0", "kept nil"}, said{"kept 3", "kept nil"}, said{"log", "end"}, said{"cells", noughts},
		said{"load 0", "no 3 -1"}, said{"call 0 0 0", "no 8"}, said{"value 0 0 0", "no 8"}, said{"cut 0", "no 8"}, said{"cells", noughts}, said{"log", "end"},
		said{"gate", "yes 0"}, said{"grant 0 0 r 0", "yes #0"},
	)
	if New() == New() {
		t.Error("New answers one and the same desk")
	}
}

func TestNoLines(t *testing.T) {
	for _, lines := range [][]string{nil, {}, make([]string, 0, 9), []string{"gate", "a\nb"}[:0], make([]string, 300)[:0]} {
		d := New()
		for range 3 {
			if s, f := d.Do(lines); s != "" || f != (api.Fault{}) {
				t.Errorf("%q, %v", s, f)
			}
		}
		if s := told(t, d, "gate"); s != "yes 0\n" {
			t.Errorf("%q: something was done", s)
		}
	}
}

// The document's lines, all at once.
func TestAllKindsOfLines(t *testing.T) {
	d := New()
	got := told(t, d,
		"|fun (pair (write (arg) (num 7))", "|  (read (arg)))", "|fun (let (keep (wrap (arg))) (seal (kept)))", "load 2",
		"gate", "grant 2 5 rw 0", "call 2 0 0", "call 2 1 -1", "value 2 0 9", "link 1 2 0 pa -1", "hand 2", "hand 1", "kept 2", "log", "cells",
		"cut 0", "call 2 0 0", "new", "load 2", "none", "   ", "")
	want := "yes nil\nyes 0\nyes #0\nyes (7 7) 6\nyes [2 (#1 !1)] 6\nno 2\nyes #2\nhand #0\nhand #2\nkept (#1 !1)\n2 w 5 #0\n2 r 5 #0\nend\ncells 0 0 0 0 0 7 0 0 0 0 0 0\n" +
		"yes nil\nno 9\nno 3 -1\nwhat\n"
	if got != want {
		t.Errorf("%q, want %q", got, want)
	}
}

func TestGrant(t *testing.T) {
	wantTalk(t,
		// of plugins that are not loaded, too
		said{"grant 0 0 r -1", "yes #0"}, said{"grant 3 11 rwpa -1", "yes #1"}, said{"gate", "yes 0"}, said{"grant 3 11 - 0", "yes #2"},
		said{"grant 4 0 r -1", "no 1"}, said{"grant -1 0 r -1", "no 1"}, said{"grant 0 12 r -1", "no 1"}, said{"grant 0 -1 r -1", "no 1"},
		said{"grant 0 0 r 1", "no 8"}, said{"grant 0 0 r -2", "no 8"}, said{"grant 0 12 r 1", "no 1"}, said{"grant 4 0 r 1", "no 1"},
		said{"cut 0", "yes nil"}, said{"grant 3 3 a 0", "yes #3"}, said{"hand 0", "hand #0"}, said{"hand 3", "hand #1 #2 #3"}, said{"hand 1", "hand"},
	)
}

func TestLink(t *testing.T) {
	wantTalk(t,
		said{"link 0 3 5 r -1", "yes #0"}, said{"link 3 0 0 rwpa -1", "yes #1"}, said{"link 2 2 2 - -1", "yes #2"}, said{"gate", "yes 0"}, said{"link 0 1 1 a 0", "yes #3"},
		said{"link 4 0 0 a -1", "no 1"}, said{"link -1 0 0 a -1", "no 1"}, said{"link 0 4 0 a -1", "no 1"}, said{"link 0 -1 0 a -1", "no 1"}, said{"link 0 0 6 a -1", "no 1"}, said{"link 0 0 -1 a -1", "no 1"},
		said{"link 0 0 0 a 1", "no 8"}, said{"link 0 0 0 a -2", "no 8"}, said{"link 0 0 6 a 1", "no 1"}, said{"link 4 0 0 a 1", "no 1"},
		said{"hand 0", "hand #0 #3"}, said{"hand 3", "hand #1"}, said{"hand 2", "hand #2"}, said{"hand 1", "hand"},
	)
}

// Each word of a line is for the field that it stands for.
func TestFieldsOfGrantAndLink(t *testing.T) {
	d := New()
	told(t, d, "gate", "gate", "gate", "gate", "gate", "gate", "grant 3 7 wp 4", "link 1 2 5 rpa 3", "grant 0 2 ra -1")
	want := []api.Node{
		{Parent: -1, Gate: 4, Rights: api.RWrite | api.RPass, Cell: 7, Plugin: -1},
		{Parent: -1, Gate: 3, Rights: api.RRead | api.RPass | api.RAsk, Plugin: 2, Func: 5},
		{Parent: -1, Gate: -1, Rights: api.RRead | api.RAsk, Cell: 2, Plugin: -1},
	}
	if got := d.Nodes(); !slices.Equal(got, want) {
		t.Errorf("%v, want %v", got, want)
	}
	if s := told(t, d, "hand 0", "hand 1", "hand 2", "hand 3"); s != "hand #2\nhand #1\nhand\nhand #0\n" {
		t.Errorf("%q", s)
	}
}

// allRights are the texts of the rights from 0 on.
var allRights = [16]string{"-", "r", "w", "rw", "p", "rp", "wp", "rwp", "a", "ra", "wa", "rwa", "pa", "rpa", "wpa", "rwpa"}

func TestEveryTextOfRights(t *testing.T) {
	d := New()
	for r, text := range allRights {
		lines := []string{"grant 1 2 " + text + " -1", "link 1 2 3 " + text + " -1"}
		if got, want := told(t, d, lines...), fmt.Sprintf("yes #%d\nyes #%d\n", 2*r, 2*r+1); got != want {
			t.Errorf("%q: %q, want %q", lines, got, want)
		}
		if nodes := d.Nodes(); len(nodes) != 2*r+2 || nodes[2*r].Rights != r || nodes[2*r+1].Rights != r {
			t.Fatalf("%q: %v", lines, nodes)
		}
	}
}

func TestRightsOfCalls(t *testing.T) {
	for r, text := range allRights {
		codes := [2]string{"no 9", "no 9"}
		if r&api.RRead != 0 {
			codes[0] = "yes 0 2"
		}
		if r&api.RWrite != 0 {
			codes[1] = "yes 4 3"
		}
		wantTalk(t, append(module(0, "fun (read (arg)) fun (write (arg) (num 4))"), said{"grant 0 1 " + text + " -1", "yes #0"}, said{"call 0 0 0", codes[0]}, said{"call 0 1 0", codes[1]})...)
	}
}

func TestGateAndCut(t *testing.T) {
	talk := []said{{"cut 0", "no 8"}, {"cut -1", "no 8"}}
	for k := range api.MaxGates {
		talk = append(talk, said{"gate", fmt.Sprint("yes ", k)}, said{fmt.Sprint("cut ", k+1), "no 8"})
	}
	talk = append(talk, again(3, "gate", "no 11")...)
	talk = append(talk, said{"cut 20", "no 8"}, said{"cut -1", "no 8"}, said{"cut 7", "yes nil"}, said{"cut 7", "yes nil"}, said{"cut 0", "yes nil"}, said{"cut 19", "yes nil"}, said{"gate", "no 11"})
	wantTalk(t, talk...)
	d := New()
	for _, s := range talk {
		told(t, d, s.line)
	}
	for k := range api.MaxGates {
		if d.Open(k) != (k != 0 && k != 7 && k != 19) {
			t.Errorf("gate %d: open %v", k, d.Open(k))
		}
	}
}

// What was given is full in the end, of cells and of functions.
func TestFull(t *testing.T) {
	var talk []said
	for n := range api.MaxNodes {
		talk = append(talk, said{[]string{"grant 1 2 r -1", "link 0 1 2 a -1"}[n%2], fmt.Sprint("yes #", n)})
	}
	talk = append(talk, said{"grant 1 2 r -1", "no 11"}, said{"link 0 1 2 a -1", "no 11"}, said{"grant 1 2 r 0", "no 8"}, said{"link 0 4 2 a -1", "no 1"}, said{"gate", "yes 0"}, said{"grant 1 2 r 0", "no 11"})
	talk = append(talk, module(1, "fun (narrow 1 (arg))", "fun (wrap (arg))")...)
	talk = append(talk, said{"call 1 0 0", "no 11"}, said{"call 1 1 0", "no 11"}, said{"gate", "yes 2"})
	wantTalk(t, talk...)
}

func TestCutTakesWhatWasGiven(t *testing.T) {
	wantTalk(t, append(module(1, "fun (read (arg))"),
		said{"gate", "yes 0"}, said{"gate", "yes 1"}, said{"grant 1 3 r 1", "yes #0"}, said{"grant 1 4 r 0", "yes #1"}, said{"grant 1 5 r -1", "yes #2"},
		said{"call 1 0 0", "yes 0 2"}, said{"cut 1", "yes nil"}, said{"call 1 0 0", "no 9"}, said{"call 1 0 1", "yes 0 2"}, said{"call 1 0 2", "yes 0 2"},
		said{"hand 1", "hand #0 #1 #2"}, said{"log", "1 r 3 #0\n1 r 4 #1\n1 r 5 #2\nend"})...)
}

// A fault of the watch is told with its At; no line comes to it: so a capability is laid into what a plugin keeps, past all lines.
func TestTheFaultOfTheWatch(t *testing.T) {
	for many := range 5 {
		d := New()
		told(t, d, "|fun (read (kept))", "load 5", "load 0", "new", "load 0", "grant 1 3 r -1", "nothing", "hand 1", "log", "")
		for range many {
			told(t, d, "cut 4")
		}
		d.Plugins[0].Kept = api.Val{Kind: api.VCap}
		want := fmt.Sprintf("no 14 %d\n", 3+many)
		lines := []string{"value 0 0 1", "gate", "cut 0", "cut 9", "grant 1 3 r -1", "link 1 0 0 a -1", "call 1 0 0", "|fun (nil)", "load 1", "load 4"}
		got := told(t, d, lines...)
		if got != strings.Repeat(want, len(lines)-1) {
			t.Errorf("%q, want %q again and again", got, want)
		}
		// What is no step is told as ever.
		if got := told(t, d, "new", "load 1", "log", "x"); got != "no 3 -1\n0 r 3 #0\nend\nwhat\n" {
			t.Errorf("%q", got)
		}
	}
}
