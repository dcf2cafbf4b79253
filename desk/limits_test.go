package desk

import (
	"fmt"
	"slices"
	"strings"
	"testing"

	"letterlock/api"
)

// wantFault asks for a fault beside which nothing is told and nothing is done.
func wantFault(t *testing.T, lines []string, want api.Fault) {
	t.Helper()
	d, twin := begun(t), begun(t)
	for range 2 {
		if s, f := d.Do(lines); s != "" || f != want {
			t.Errorf("%s: %q, %v, want %v", short(lines...), s, f, want)
		}
	}
	if state(t, d) != state(t, twin) {
		t.Errorf("%s: something was done: %s", short(lines...), state(t, d))
	}
	behind := []string{"gate", "load 2", "|fun (nil)", "load 3", "call 1 0 1", "kept 1", "grant 1 3 r 1", "new", "load 2"}
	if a, b := told(t, d, behind...), told(t, twin, behind...); a != b {
		t.Errorf("%s: behind that %q is told, else %q", short(lines...), a, b)
	}
}

func many(line string, n int) []string { return slices.Repeat([]string{line}, n) }

func tooMany() api.Fault { return api.Fault{Code: api.ErrMany, At: -1} }

func lineFault(at int) api.Fault { return api.Fault{Code: api.ErrLine, At: at} }

func TestAsManyLinesAsMayBe(t *testing.T) {
	for _, n := range []int{1, 2, 100, api.MaxLines - 1, api.MaxLines} {
		if got, want := told(t, New(), many("cut 0", n)...), strings.Repeat("no 8\n", n); got != want {
			t.Errorf("%d lines: %q", n, got)
		}
		for _, line := range []string{"", " ", "|", "|fun (nil)", "new"} {
			if got := told(t, New(), many(line, n)...); got != "" {
				t.Errorf("%d lines %q: %q", n, line, got)
			}
		}
	}
	// The first and the last one count.
	lines := append([]string{"gate"}, many("", api.MaxLines-2)...)
	if got := told(t, New(), append(lines, "gate")...); got != "yes 0\nyes 1\n" {
		t.Errorf("%q", got)
	}
	// So many are of one Do alone.
	d := New()
	for i := range 10 {
		if got := told(t, d, many("x", api.MaxLines)...); got != strings.Repeat("what\n", api.MaxLines) {
			t.Fatalf("Do %d: %q", i, got)
		}
	}
}

func TestTooManyLines(t *testing.T) {
	for _, n := range []int{1, 2, 56, 57, 100, 1000, 65336, 100000} {
		for _, line := range []string{"", " ", "gate", "|fun (nil)", "new", "grant 1 1 r -1", "value 0 0 9", "a\nb", "\n", "what"} {
			wantFault(t, many(line, api.MaxLines+n), tooMany())
		}
	}
	wantFault(t, append([]string{"new", "gate"}, many("", api.MaxLines)...), tooMany())
}

func TestNewlines(t *testing.T) {
	for _, line := range []string{"\n", "a\nb", "gate\n", "\ngate", "gate\ngate", "|\n", "|fun (nil)\n", "\n|fun (nil)", "|fun\n(nil)", " \n ", "new\n", "\n\n\n", "\r\n", "log\r\n", strings.Repeat(" ", 100000) + "\n", strings.Repeat("x", 100000) + "\n" + strings.Repeat("x", 100000), "|" + strings.Repeat("x", 100000) + "\n"} {
		wantFault(t, []string{line}, lineFault(0))
		for _, at := range []int{0, 1, 2, 5, 9} {
			lines := many("gate", 10)
			lines[2], lines[4], lines[7] = "|fun (num 4)", "new", "value 0 0 77"
			lines[at] = line
			wantFault(t, lines, lineFault(at))
			// The first of two or more is told.
			for after := at + 1; after < 10; after++ {
				two := slices.Clone(lines)
				two[after] = "\n"
				wantFault(t, two, lineFault(at))
			}
		}
	}
	wantFault(t, many("x\n", api.MaxLines), lineFault(0))
}

func TestNewlinesInAsManyLinesAsMayBe(t *testing.T) {
	for at := range api.MaxLines {
		lines := many("gate", api.MaxLines)
		lines[at] = "gate\n"
		wantFault(t, lines, lineFault(at))
	}
	for _, at := range []int{0, 1, 100, api.MaxLines - 1, api.MaxLines} {
		lines := many("gate", api.MaxLines+1)
		lines[at] = "\n"
		wantFault(t, lines, tooMany())
		lines[0], lines[api.MaxLines] = "\n", "\n"
		wantFault(t, lines, tooMany())
	}
}

// Other bytes that may end lines elsewhere are no newlines.
func TestOtherEndsOfLines(t *testing.T) {
	for _, end := range []string{"\r", "\v", "\f", "\x00", "\u0085", "\u2028", "\u2029", "\x1e", "\\n"} {
		wantTalk(t, said{"gate" + end, "what"}, said{end, "what"}, said{"gate", "yes 0"}, said{"|fun (nil) " + end, ""})
		wantTalk(t, said{"a" + end + "gate", "what"}, said{"gate", "yes 0"})
	}
	wantTalk(t, said{"|fun (nil)\r", ""}, said{"load 0", "yes nil"})
}

// With a fault a talk goes on as if nothing had been asked, also within a text.
func TestFaultsAmongLines(t *testing.T) {
	d, twin := New(), New()
	wrong := [][]string{many("|x", 201), {"|x", "new", "x\n"}, {"load 1", "gate", "\n"}, {"\n", "|?"}, many("\n", 300), {"value 1 0 3", "value 1 0 3\n"}}
	for i, line := range []string{"|fun (let (keep", "|(arg)) (kept))", "load 1", "gate", "value 1 0 5", "|fun (nil)", "load 2", "new", "load 3", "grant 1 4 rw 0", "call 1 0 0", "kept 1", "hand 1", "cut 0", "log", "cells"} {
		for k, lines := range wrong {
			if s, f := d.Do(lines); s != "" || f.Code == 0 {
				t.Errorf("ahead of line %d, %d: %q, %v", i, k, s, f)
			}
		}
		if a, b := told(t, d, line), told(t, twin, line); a != b {
			t.Errorf("line %d, %q: %q, want %q", i, line, a, b)
		}
	}
}

func TestVeryLongLines(t *testing.T) {
	const size = 1 << 23
	long := func(s string) string { return strings.Repeat(s, size/len(s)) }
	for _, x := range []said{
		{long(" "), ""}, {long("x"), "what"}, {long("x "), "what"}, {long("gate "), "what"}, {long(" 1"), "what"}, {long("\xff"), "what"}, {long("\x00"), "what"}, {long("1"), "what"}, {long("ä"), "what"},
		{"gate" + long(" "), "yes 0"}, {long(" ") + "gate", "yes 0"}, {long(" ") + "gate" + long(" "), "yes 0"}, {"grant" + long(" ") + "1" + long(" ") + "2 r -1", "yes #0"},
		{"value 0 0 " + long("1"), "what"}, {"value 0 0 " + long("0") + "1", "what"}, {"value 0 0 -" + long("9"), "what"}, {"cut " + long("-"), "what"}, {"grant 1 1 " + long("r") + " -1", "what"}, {"grant 1 1 " + long("rwpa") + " -1", "what"},
		{"|" + long("x"), ""}, {"|" + long("|"), ""}, {" |" + long("x"), "what"},
	} {
		wantTalk(t, x, said{"cut 9", "no 8"})
	}
	wantFault(t, []string{long("x") + "\n"}, lineFault(0))
	wantTalk(t, said{"|" + long("fun (nil) "), ""}, said{"load 0", fmt.Sprint("no 3 ", api.MaxText)})
}

// Whatever bytes lines are of, each is text, tells nothing, or tells what.
func TestBytesThatAreNoLetters(t *testing.T) {
	for b := range 256 {
		for _, line := range []string{string([]byte{byte(b)}), string([]byte{byte(b), byte(b)}), string([]byte{' ', byte(b), ' '}), string([]byte{byte(b), ' ', '0'})} {
			want := said{line, "what"}
			switch {
			case b == '\n':
				wantFault(t, []string{line}, lineFault(0))
				continue
			case b == '|' && line[0] == '|', strings.Trim(line, " ") == "":
				want.told = ""
			}
			wantTalk(t, want, said{"gate", "yes 0"})
		}
	}
}
