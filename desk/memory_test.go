package desk

import (
	"math/rand"
	"slices"
	"strings"
	"testing"
	"unsafe"
)

func TestLinesStayAsTheyWere(t *testing.T) {
	r := script{rand.New(rand.NewSource(6))}
	for range 50 {
		lines := r.lines(100)
		all := append(slices.Clone(lines), "gate", "|fun (nil)", "x\n")
		ahead := slices.Clone(all)
		d := New()
		// What lies behind the list's length is neither read nor written.
		want := told(t, New(), lines...)
		if got := told(t, d, all[:100]...); got != want {
			t.Fatalf("%q, want %q", got, want)
		}
		d.Do(all)
		if !slices.Equal(all, ahead) {
			t.Fatalf("%q, ahead %q", all, ahead)
		}
	}
}

// What was handed in may be changed: nothing of the desk, and nothing that was told, changes with it.
func TestLinesThatAreChanged(t *testing.T) {
	r := script{rand.New(rand.NewSource(7))}
	for range 100 {
		lines := r.lines(120)
		d, twin := New(), New()
		for some := range slices.Chunk(lines, 7) {
			mine := slices.Clone(some)
			got, want := told(t, d, mine...), told(t, twin, some...)
			for i := range mine {
				mine[i] = "|?"
			}
			if got != want {
				t.Fatalf("%q, want %q", got, want)
			}
		}
		if state(t, d) != state(t, twin) {
			t.Fatal("a desk changes with what was handed in")
		}
	}
}

// Also the bytes of the lines are not kept.
func TestBytesThatAreChanged(t *testing.T) {
	for _, lines := range [][]string{
		{"|fun (num 4)"}, {"|fun (num 4)", "|fun (nil)"}, {"|", "|fun", "| (num 4)"}, {"|" + strings.Repeat(" ", 5000) + "fun (num 4)"}, {"|" + strings.Repeat(" ", 9000)},
		{"|fun (num 4)", "load 1"}, {"|fun (seal (arg))", "load 1", "value 1 0 6", "grant 1 3 rw -1", "what", "hand 1", "kept 1"},
	} {
		var memory []byte
		for _, line := range lines {
			memory = append(memory, line...)
		}
		var mine []string
		from := 0
		for _, line := range lines {
			mine = append(mine, unsafe.String(&memory[from], len(line)))
			from += len(line)
		}
		d, twin := New(), New()
		got, want := told(t, d, mine...), told(t, twin, lines...)
		for i := range memory {
			memory[i] = '?'
		}
		behind := []string{"load 2", "value 2 0 1", "value 1 0 1", "hand 1", "kept 1"}
		if got != want || told(t, d, behind...) != told(t, twin, behind...) {
			t.Errorf("%q: a desk changes with what was handed in", lines)
		}
	}
}

// What was told stays as it was, whatever is asked behind that.
func TestWhatWasTold(t *testing.T) {
	r := script{rand.New(rand.NewSource(8))}
	d := New()
	var texts []string
	var copies [][]byte
	for range 200 {
		s := told(t, d, r.lines(20)...)
		texts, copies = append(texts, s), append(copies, []byte(s))
	}
	for i, s := range texts {
		if s != string(copies[i]) {
			t.Fatalf("Do %d: %q, ahead %q", i, s, copies[i])
		}
	}
}

// A desk is asked on and on: it goes on telling.
func TestOnAndOn(t *testing.T) {
	r := script{rand.New(rand.NewSource(9))}
	m, d := modelOf(t), New()
	for i := range 40 {
		lines := r.lines(100)
		want := ""
		for _, line := range lines {
			want += m.tell(line)
		}
		if got := told(t, d, lines...); got != want {
			t.Fatalf("Do %d: %q, want %q", i, got, want)
		}
	}
}

// Any bytes are lines, or have a fault.
func TestAnyBytes(t *testing.T) {
	r := rand.New(rand.NewSource(10))
	const likely = "  ||\t\r01-rwpa#xé\xff"
	words := []string{"new", "load", "grant", "link", "cut", "gate", "call", "value", "hand", "kept", "log", "cells", "1", "-1", "0", "rw", "fun", "(nil)"}
	for round := range 3000 {
		m, d := modelOf(t), New()
		for range 12 {
			line := ""
			for range r.Intn(12) {
				switch r.Intn(3) {
				case 0:
					line += words[r.Intn(len(words))]
				case 1:
					line += string(likely[r.Intn(len(likely))])
				default:
					line += " "
				}
			}
			if round%3 == 0 {
				line += string([]byte{byte(r.Intn(256)), byte(r.Intn(256))})
			}
			s, f := d.Do([]string{line})
			if strings.Contains(line, "\n") {
				if s != "" || f != lineFault(0) {
					t.Fatalf("%q: %q, %v", line, s, f)
				}
				continue
			}
			if want := m.tell(line); s != want || f.Code != 0 {
				t.Fatalf("%q: %q, %v, want %q", line, s, f, want)
			}
		}
	}
}

// As many calls as may be, each of which reads much, and a log that is asked for again and again.
func TestALongLogToldOften(t *testing.T) {
	d := New()
	reads := strings.Repeat("(let (read (arg)) ", 8) + "(call 0 (arg))" + strings.Repeat(")", 8)
	told(t, d, "|fun "+reads, "load 0", "grant 0 0 r -1")
	if got := told(t, d, many("call 0 0 0", 200)...); got != strings.Repeat("no 4\n", 200) {
		t.Errorf("%q", got)
	}
	// In each of 20 calls that were open it was read 8 times.
	s := told(t, d, many("log", 20)...)
	if want := strings.Repeat(strings.Repeat("0 r 0 #0\n", 200*20*8)+"end\n", 20); s != want {
		t.Errorf("%d bytes, want %d", len(s), len(want))
	}
}
