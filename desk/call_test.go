package desk

import (
	"fmt"
	"slices"
	"strings"
	"testing"
)

// identity tells what it is called with.
const identity = "fun (arg)"

func TestCallWithThings(t *testing.T) {
	wantTalk(t, slices.Concat(module(1, identity, "fun (keep (arg))"), []said{
		// ahead of all that is given there is no thing, also not with a number below 0
		{"call 1 0 0", "no 8"}, {"call 1 0 -1", "no 8"}, {"call 1 0 1", "no 8"},
		{"grant 0 1 r -1", "yes #0"}, {"grant 1 1 r -1", "yes #1"},
		{"call 1 0 0", "yes #1 1"}, {"call 1 0 -1", "yes #1 1"}, {"call 1 0 1", "no 8"},
		{"link 1 1 0 a -1", "yes #2"}, {"grant 2 1 r -1", "yes #3"}, {"grant 1 0 - -1", "yes #4"},
		{"call 1 0 0", "yes #1 1"}, {"call 1 0 1", "yes #2 1"}, {"call 1 0 2", "yes #4 1"}, {"call 1 0 3", "no 8"}, {"call 1 0 4", "no 8"},
		{"call 1 0 -1", "yes #1 1"}, {"call 1 0 -2", "yes #1 1"}, {"call 1 0 -3", "yes #1 1"}, {"call 1 0 -9223372036854775808", "yes #1 1"}, {"call 1 0 9223372036854775807", "no 8"},
		{"call 1 1 2", "yes nil 2"}, {"kept 1", "kept #4"}, {"call 1 1 -7", "yes #4 2"}, {"kept 1", "kept #1"},
		// functions and plugins that there are not, or that are not loaded
		{"call 1 2 0", "no 8"}, {"call 1 -1 0", "no 8"}, {"call 0 0 0", "no 8"}, {"call 3 0 0", "no 8"}, {"call 4 0 0", "no 8"}, {"call -1 0 0", "no 8"}, {"call 4 0 -1", "no 8"}, {"call -1 0 -1", "no 8"},
		{"kept 1", "kept #1"}, {"log", "end"},
	})...)
}

func TestCallWithEachOfMany(t *testing.T) {
	talk := module(2, identity)
	for n := range 60 {
		talk = append(talk, said{"grant 2 3 r -1", fmt.Sprint("yes #", n)})
	}
	for n := range 60 {
		talk = append(talk, said{fmt.Sprint("call 2 0 ", n), fmt.Sprintf("yes #%d 1", n)})
	}
	wantTalk(t, append(talk, said{"call 2 0 60", "no 8"}, said{"call 2 0 -60", "yes #0 1"})...)
}

func TestValue(t *testing.T) {
	talk := append(module(3, identity, "fun (keep (arg))", "fun (bin add (arg) (num 1))"), said{"grant 3 1 r -1", "yes #0"})
	for _, n := range []string{"0", "1", "-1", "10", "-10", "4294967296", "-4294967297", "9223372036854775807", "-9223372036854775808", "-9223372036854775807"} {
		talk = append(talk, said{"value 3 0 " + n, "yes " + n + " 1"})
	}
	wantTalk(t, append(talk,
		said{"value 3 2 9223372036854775807", "yes -9223372036854775808 3"}, said{"value 3 2 -9223372036854775808", "yes -9223372036854775807 3"},
		said{"value 3 0 9223372036854775808", "what"}, said{"value 3 0 -9223372036854775809", "what"},
		said{"value 3 1 5", "yes nil 2"}, said{"value 3 1 6", "yes 5 2"}, said{"kept 3", "kept 6"},
		said{"value 3 3 0", "no 8"}, said{"value 3 -1 0", "no 8"}, said{"value 2 0 0", "no 8"}, said{"value 4 0 0", "no 1"}, said{"value -1 0 0", "no 1"}, said{"kept 3", "kept 6"})...)
}

// A module for each code that a call can come to in its run; what was done ahead of it stays done.
func TestCodesOfRuns(t *testing.T) {
	wantTalk(t, slices.Concat(
		module(0, "fun (seal (arg))", "fun (call 1 (arg))", "fun (if (arg) (let (call 2 (bin sub (arg) (num 1))) (call 2 (bin sub (arg) (num 1)))) (num 0))",
			"fun (let (pair (arg) (arg)) (let (pair (var 0) (var 0)) (let (pair (var 0) (var 0)) (let (pair (var 0) (var 0)) (pair (var 0) (var 0))))))",
			"fun (let (keep (arg)) (fst (arg)))", "fun (open (ask (arg) (num 5)))"),
		module(1, "fun (open (ask (arg) (num 5)))", "fun (ask (arg) (arg))", "fun (let (write (arg) (num 8)) (ask (arg) (nil)))"),
		[]said{
			{"link 1 0 0 a -1", "yes #0"}, {"link 1 0 0 rwp -1", "yes #1"}, {"link 1 3 0 a -1", "yes #2"}, {"link 0 0 0 a -1", "yes #3"}, {"grant 1 6 rwa -1", "yes #4"},
			{"value 0 4 3", "no 2"}, {"kept 0", "kept 3"}, {"value 0 3 1", "no 3"}, {"value 0 1 1", "no 4"}, {"value 0 2 30", "no 4"}, {"value 0 2 12", "no 12"}, {"value 0 2 0", "yes 0 3"},
			{"call 1 0 0", "no 10"}, {"call 1 0 1", "no 9"}, {"call 1 0 2", "no 8"}, {"call 0 5 0", "yes 5 6"}, {"call 1 1 0", "no 9"},
			{"call 1 2 3", "no 2"}, {"log", "1 w 6 #4\nend"}, {"cells", "cells 0 0 0 0 0 0 8 0 0 0 0 0"},
		})...)
}

func TestWrapUntilItIsFull(t *testing.T) {
	talk := append(module(1, "fun (wrap (arg))"), said{"grant 1 3 r -1", "yes #0"})
	for k := range 20 {
		talk = append(talk, said{"call 1 0 0", fmt.Sprintf("yes (#%d !%d) 2", k+1, k)})
	}
	wantTalk(t, append(talk, said{"call 1 0 0", "no 11"}, said{"gate", "no 11"})...)
}

func TestTextsOfValues(t *testing.T) {
	for _, x := range []struct {
		function, told string
		steps          int
	}{
		{"(nil)", "nil", 1}, {"(num 0)", "0", 1}, {"(num -12)", "-12", 1}, {"(num 9223372036854775807)", "9223372036854775807", 1}, {"(num -9223372036854775808)", "-9223372036854775808", 1},
		{"(arg)", "#0", 1}, {"(narrow 3 (arg))", "#1", 2}, {"(wrap (arg))", "(#1 !0)", 2}, {"(snd (wrap (arg)))", "!0", 3},
		{"(pair (nil) (num 3))", "(nil 3)", 3}, {"(pair (pair (num 1) (num 2)) (pair (arg) (nil)))", "((1 2) (#0 nil))", 7},
		{"(seal (nil))", "[2 nil]", 2}, {"(seal (seal (pair (arg) (num -1))))", "[2 [2 (#0 -1)]]", 5}, {"(seal (wrap (arg)))", "[2 (#1 !0)]", 3},
		{"(pair (snd (wrap (arg))) (seal (num 6)))", "(!0 [2 6])", 6},
	} {
		wantTalk(t, append(module(2, "fun "+x.function, "fun (keep "+x.function+")"), said{"grant 2 7 rwpa -1", "yes #0"}, said{"call 2 0 0", fmt.Sprintf("yes %s %d", x.told, x.steps)})...)
		wantTalk(t, append(module(2, "fun (keep "+x.function+")"), said{"grant 2 7 rwpa -1", "yes #0"}, said{"call 2 0 0", fmt.Sprintf("yes nil %d", x.steps+1)}, said{"kept 2", "kept " + x.told})...)
	}
}

func TestGreatValues(t *testing.T) {
	text, value := "(arg)", "7"
	for range 19 {
		text, value = "(pair (num 1) "+text+")", "(1 "+value+")"
	}
	wantTalk(t, append(module(0, "fun "+text, "fun (keep (seal "+text+"))"), said{"value 0 0 7", "yes " + value + " 39"}, said{"value 0 1 7", "yes nil 41"}, said{"kept 0", "kept [0 " + value + "]"})...)
}

func TestHand(t *testing.T) {
	talk := []said{{"hand 0", "hand"}, {"hand 4", "hand"}, {"hand -1", "hand"}, {"hand 9223372036854775807", "hand"}, {"hand -9223372036854775808", "hand"}, {"hand 4294967296", "hand"}}
	var hands [4]string
	for n := range 80 {
		p := n * n % 7 % 4
		hands[p] += fmt.Sprintf(" #%d", n)
		line := fmt.Sprintf("grant %d %d r -1", p, n%12)
		if n%3 == 0 {
			line = fmt.Sprintf("link %d %d %d a -1", p, n%4, n%6)
		}
		talk = append(talk, said{line, fmt.Sprint("yes #", n)}, said{fmt.Sprint("hand ", p), "hand" + hands[p]})
	}
	for p, hand := range hands {
		talk = append(talk, said{fmt.Sprint("hand ", p), "hand" + hand})
	}
	// A plugin that is loaded has still what it was given.
	talk = append(talk, module(0, identity)...)
	wantTalk(t, append(talk, said{"hand 0", "hand" + hands[0]}, said{"hand 4", "hand"}, said{"hand -1", "hand"})...)
}

func TestKept(t *testing.T) {
	wantTalk(t, slices.Concat(
		[]said{{"kept 0", "kept nil"}, {"kept 4", "kept nil"}, {"kept -1", "kept nil"}, {"kept 9223372036854775807", "kept nil"}, {"kept -9223372036854775808", "kept nil"}, {"kept 4294967296", "kept nil"}},
		module(0, "fun (keep (arg))"), module(3, "fun (keep (seal (arg)))"),
		[]said{
			{"kept 0", "kept nil"}, {"value 0 0 4", "yes nil 2"}, {"kept 0", "kept 4"}, {"kept 3", "kept nil"}, {"kept 4", "kept nil"}, {"value 3 0 9", "yes nil 3"}, {"kept 3", "kept [3 9]"}, {"kept 0", "kept 4"},
			{"kept -1", "kept nil"}, {"kept 4294967296", "kept nil"}, {"value 0 0 5", "yes 4 2"}, {"kept 0", "kept 5"}, {"kept 0", "kept 5"},
		},
		// One that is loaded again keeps nothing.
		module(0, "fun (kept)"), []said{{"kept 0", "kept nil"}, {"value 0 0 1", "yes nil 1"}, {"kept 3", "kept [3 9]"}})...)
}

func TestLog(t *testing.T) {
	both := "fun (read (arg)) fun (write (arg) (num -5)) fun (pair (read (narrow 1 (arg))) (write (fst (wrap (arg))) (num 6)))"
	wantTalk(t, slices.Concat(module(0, both), module(2, both), module(3, both, "fun (ask (arg) (num 1))"), []said{
		{"log", "end"}, {"grant 0 0 rw -1", "yes #0"}, {"grant 2 11 rw -1", "yes #1"}, {"grant 3 4 rw -1", "yes #2"}, {"log", "end"},
		{"call 2 1 0", "yes -5 3"}, {"log", "2 w 11 #1\nend"}, {"call 0 0 0", "yes 0 2"}, {"call 3 2 0", "yes (0 6) 9"},
		{"log", "2 w 11 #1\n0 r 0 #0\n3 r 4 #3\n3 w 4 #4\nend"}, {"call 2 0 0", "yes -5 2"}, {"call 2 0 5", "no 8"},
		{"log", "2 w 11 #1\n0 r 0 #0\n3 r 4 #3\n3 w 4 #4\n2 r 11 #1\nend"}, {"log", "2 w 11 #1\n0 r 0 #0\n3 r 4 #3\n3 w 4 #4\n2 r 11 #1\nend"},
		{"cells", "cells 0 0 0 0 6 0 0 0 0 0 0 -5"},
	})...)
}

func TestALongLog(t *testing.T) {
	d := New()
	told(t, d, "|fun (pair (read (arg)) (pair (write (arg) (bin add (read (arg)) (num 1))) (read (arg))))", "load 1", "grant 1 10 rw -1")
	calls := slices.Repeat([]string{"call 1 0 0"}, 200)
	for range 3 {
		told(t, d, calls...)
	}
	if got, want := told(t, d, "log"), strings.Repeat("1 r 10 #0\n1 r 10 #0\n1 w 10 #0\n1 r 10 #0\n", 600)+"end\n"; got != want {
		t.Errorf("%d bytes, want %d", len(got), len(want))
	}
	if got := told(t, d, "cells"); got != "cells 0 0 0 0 0 0 0 0 0 0 600 0\n" {
		t.Errorf("%q", got)
	}
}

func TestCells(t *testing.T) {
	talk := append([]said{{"cells", noughts}}, module(1, "fun (write (arg) (bin sub (num 0) (bin add (read (arg)) (num 100))))", "fun (keep (arg))", "fun (write (kept) (arg))")...)
	for cell := range 12 {
		talk = append(talk, said{fmt.Sprintf("grant 1 %d rw -1", cell), fmt.Sprint("yes #", cell)})
	}
	talk = append(talk, said{"cells", noughts}, said{"call 1 0 3", "yes -100 8"}, said{"cells", "cells 0 0 0 -100 0 0 0 0 0 0 0 0"}, said{"call 1 0 3", "yes 0 8"}, said{"cells", noughts})
	extremes := []string{"9223372036854775807", "-9223372036854775808", "5", "-1", "10", "0", "77", "8", "123456789012", "-9", "1", "2"}
	for cell, n := range extremes {
		kept := "nil"
		if cell > 0 {
			kept = fmt.Sprint("#", cell-1)
		}
		talk = append(talk, said{fmt.Sprint("call 1 1 ", cell), "yes " + kept + " 2"}, said{"value 1 2 " + n, "yes " + n + " 3"})
	}
	wantTalk(t, append(talk, said{"cells", "cells " + strings.Join(extremes, " ")})...)
}
