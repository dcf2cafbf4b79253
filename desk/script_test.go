package desk

import (
	"fmt"
	"math/rand"
	"slices"
	"strings"
	"testing"

	"letterlock/api"
)

// script makes random lines.
type script struct{ *rand.Rand }

func (s script) one(texts ...string) string { return texts[s.Intn(len(texts))] }

// functions are of which modules are made: what is kept, asked, wrapped and cut by some of them is used by others.
var functions = []string{
	"(arg)", "(keep (arg))", "(kept)", "(read (arg))", "(write (arg) (num 41))", "(read (kept))", "(write (kept) (arg))", "(keep (wrap (arg)))", "(keep (seal (arg)))", "(open (kept))", "(open (arg))",
	"(ask (arg) (kept))", "(ask (arg) (num 3))", "(ask (arg) (arg))", "(keep (ask (arg) (kept)))", "(cut (snd (kept)))", "(keep (fst (kept)))", "(narrow 5 (arg))", "(keep (narrow 13 (arg)))", "(pair (arg) (kept))",
	"(keep (pair (kept) (kept)))", "(let (write (arg) (bin add (read (arg)) (num 1))) (read (arg)))", "(call 0 (arg))", "(if (arg) (call 1 (bin sub (arg) (num 1))) (nil))", "(seal (wrap (arg)))", "(nil)", "(fst (arg))",
	"(let (keep (arg)) (let (read (kept)) (write (kept) (var 0))))",
}

// text tells lines of the text, of a module for the most part.
func (s script) text() []string {
	var words []string
	for range 2 + s.Intn(5) {
		words = append(words, "fun")
		words = append(words, strings.Split(functions[s.Intn(len(functions))], " ")...)
	}
	if s.Intn(10) == 0 {
		words = slices.Delete(words, 0, 1+s.Intn(2))
	}
	if s.Intn(10) == 0 {
		words = append(words, s.one("?", "fun", ")", "fun (nil", "fun (var 3)", "fun (narrow 1000 (nil))", strings.Repeat(" ", 6000)))
	}
	var lines []string
	line := ""
	for _, word := range words {
		line += s.one("", "", " ", "  ") + word + " "
		if s.Intn(6) == 0 {
			lines, line = append(lines, line), ""
		}
	}
	return append(lines, line)
}

// number tells one from 0 to ahead of end, or, now and then, any other one.
func (s script) number(end int) string {
	switch s.Intn(40) {
	case 0:
		return s.one("-1", "-2", fmt.Sprint(end), fmt.Sprint(end+1))
	case 1:
		return s.one("9223372036854775807", "-9223372036854775808", "4294967296", "9223372036854775808", "01", "+1", "-0", "x", "")
	}
	return fmt.Sprint(s.Intn(end))
}

func (s script) gate() string {
	if s.Intn(2) == 0 {
		return "-1"
	}
	return s.number(4)
}

func (s script) rights() string {
	switch s.Intn(12) {
	case 0:
		return s.one("wr", "x", "R", "0", "--")
	case 1, 2, 3, 4:
		return allRights[s.Intn(16)]
	}
	return "rwpa"
}

// asking tells a line of words.
func (s script) asking() string {
	p := s.number(4)
	switch k := s.Intn(100); {
	case k < 4:
		return "gate"
	case k < 14:
		return "grant " + p + " " + s.number(12) + " " + s.rights() + " " + s.gate()
	case k < 24:
		return "link " + p + " " + s.number(4) + " " + s.number(6) + " " + s.rights() + " " + s.gate()
	case k < 27:
		return "cut " + s.number(5)
	case k < 57:
		return "call " + p + " " + s.number(5) + " " + s.one(s.number(5), s.number(2), "-1")
	case k < 72:
		return "value " + p + " " + s.number(5) + " " + s.one(s.number(3), s.number(100))
	case k < 77:
		return "hand " + p
	case k < 85:
		return "kept " + p
	case k < 89:
		return "log"
	case k < 92:
		return "cells"
	case k < 95:
		return "load " + p
	case k < 97:
		return "new"
	}
	return s.one("", "  ", "what", "|", "|fun (nil)", " |fun (nil)", "end", "gates")
}

// spoilt tells a line that is a little other than it was.
func (s script) spoilt(line string) string {
	if line == "" {
		return " "
	}
	at := s.Intn(len(line))
	switch s.Intn(5) {
	case 0:
		return line[:at] + line[at+1:]
	case 1:
		return line[:at] + s.one(" ", "  ", "\t", "\r", "\xff", "0", "-", "|", "x") + line[at:]
	case 2:
		return line + s.one(" ", " 1", " x", "1")
	case 3:
		return strings.ReplaceAll(line, " ", s.one("  ", "\t", ""))
	}
	return s.one(" ", "   ", "x", "|") + line
}

// lines tells so many lines.
func (s script) lines(many int) []string {
	var l []string
	for p := range api.MaxPlugins {
		l = append(l, s.load(p)...)
		l = append(l, fmt.Sprintf("grant %d %d rwpa %s", p, s.Intn(12), s.gate()), fmt.Sprintf("link %d %d %d rwpa -1", p, s.Intn(4), s.Intn(3)))
	}
	for len(l) < many {
		line := s.asking()
		switch s.Intn(25) {
		case 0:
			line = s.spoilt(line)
		case 1:
			l = append(l, s.load(s.Intn(4))...)
		}
		l = append(l, line)
	}
	return l[:many]
}

// load tells lines by which a plugin is loaded.
func (s script) load(p int) []string {
	var l []string
	if s.Intn(8) > 0 {
		l = append(l, s.one("new", " new", "new "))
	}
	for _, line := range s.text() {
		l = append(l, "|"+line)
	}
	return append(l, fmt.Sprint("load ", p))
}

// inPieces tells what is told of lines, cut at some places.
func inPieces(t *testing.T, lines []string, cuts ...int) string {
	t.Helper()
	d := New()
	s, from := "", 0
	for _, end := range append(cuts, len(lines)) {
		s += told(t, d, lines[from:end]...)
		from = end
	}
	return s
}

// Each line tells what the document asks for, by a second reckoning.
func TestManyLines(t *testing.T) {
	r := script{rand.New(rand.NewSource(1))}
	often := map[string]int{}
	for round := range 900 {
		lines := r.lines([]int{api.MaxLines, 60, 90}[round%3])
		m, d := modelOf(t), New()
		all := ""
		for i, line := range lines {
			want := m.tell(line)
			if got := told(t, d, line); got != want {
				t.Fatalf("line %d of %q: %q, want %q", i, lines, got, want)
			}
			all += want
			often[sort(line, want)]++
		}
		if got := told(t, New(), lines...); got != all {
			t.Fatalf("%q: %q, want %q", lines, got, all)
		}
	}
	for _, what := range []string{
		"load yes", "load no 1", "load no 3", "load no 5", "load no 6", "load no 7", "load what", "new", "text", "grant yes", "grant no 1", "grant no 8", "grant what", "link yes", "link no 1", "link no 8", "link what",
		"cut yes", "cut no 8", "cut what", "gate yes", "call yes", "call no 2", "call no 3", "call no 4", "call no 8", "call no 9", "call what", "value yes", "value no 1", "value no 2", "value no 8", "value what",
		"hand", "kept", "log", "cells", "hand what", "kept what", "nothing",
	} {
		if often[what] < 10 {
			t.Errorf("%s came %d times only", what, often[what])
		}
	}
}

// sort tells of what sort a line is, and what is told of it.
func sort(line, told string) string {
	words, things := strings.Fields(line), strings.Fields(told)
	switch {
	case strings.HasPrefix(line, "|"):
		return "text"
	case len(words) == 0:
		return "nothing"
	case told == "what\n" || len(things) > 0 && things[0] == "yes":
		return words[0] + " " + things[0]
	case len(things) > 0 && things[0] == "no":
		return words[0] + " no " + things[1]
	}
	return words[0]
}

// What two Do tell one behind the other one Do of both tells, wherever they are cut.
func TestCutAtEachPlace(t *testing.T) {
	r := script{rand.New(rand.NewSource(2))}
	within := 0
	for round := range 60 {
		lines := r.lines([]int{api.MaxLines, 50, 70, 30}[round%4])
		want := told(t, New(), lines...)
		for at := range len(lines) + 1 {
			if got := inPieces(t, lines, at); got != want {
				t.Fatalf("%q, cut at %d: %q, want %q", lines, at, got, want)
			}
			if at > 0 && at < len(lines) && lines[at-1] != "" && lines[at-1][0] == '|' && strings.HasPrefix(lines[at], "|") {
				within++
			}
		}
	}
	if within < 250 {
		t.Errorf("%d times only it was cut between lines of the text", within)
	}
}

func TestCutIntoManyPieces(t *testing.T) {
	r := script{rand.New(rand.NewSource(3))}
	for range 200 {
		lines := r.lines(r.Intn(api.MaxLines + 1))
		want := told(t, New(), lines...)
		var cuts []int
		for at := range lines {
			for range max(0, r.Intn(9)-6) {
				cuts = append(cuts, at)
			}
		}
		if got := inPieces(t, lines, cuts...); got != want {
			t.Fatalf("%q, cut at %v: %q, want %q", lines, cuts, got, want)
		}
	}
}

// What was asked is told again of a new desk; and desks know nothing of each other.
func TestDesksByThemselves(t *testing.T) {
	r := script{rand.New(rand.NewSource(5))}
	var scripts [][]string
	var wants []string
	for range 40 {
		scripts = append(scripts, r.lines(api.MaxLines))
		wants = append(wants, told(t, New(), scripts[len(scripts)-1]...))
	}
	idle := New()
	still := state(t, idle)
	for i, lines := range scripts {
		if got := told(t, New(), lines...); got != wants[i] {
			t.Errorf("%q: %q, ahead %q", lines, got, wants[i])
		}
	}
	// Line by line, in turns.
	var desks []*Desk
	gots := make([]string, len(scripts))
	for range scripts {
		desks = append(desks, New())
	}
	for at := range api.MaxLines {
		for i, d := range desks {
			gots[i] += told(t, d, scripts[i][at])
		}
	}
	if !slices.Equal(gots, wants) {
		t.Error("beside other desks something else is told")
	}
	if state(t, idle) != still {
		t.Error("a desk knows of other ones")
	}
}
