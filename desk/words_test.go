package desk

import (
	"fmt"
	"slices"
	"strings"
	"testing"
)

// forms are the lines of the table, as the document writes them.
var forms = []string{
	"new", "load P", "grant P K R G", "link P Q K R G", "cut G", "gate", "call P K H", "value P K N", "hand P", "kept P", "log", "cells",
}

// begunLines are lines by which something is done to all that can be asked for.
var begunLines = []string{"|fun (keep (arg)) fun (write (arg) (num 6))", "|fun (read (arg))", "gate", "grant 1 2 rwpa 0", "grant 0 3 rw -1", "link 1 0 1 a -1", "load 0", "load 1", "call 1 1 0", "value 0 0 5"}

// begun tells a desk to which something was done, so that much would be seen if more were.
func begun(t *testing.T) *Desk {
	t.Helper()
	d := New()
	told(t, d, begunLines...)
	return d
}

// wantWhat asks that a line is none of the table, and does nothing.
func wantWhat(t *testing.T, line string) {
	t.Helper()
	d := begun(t)
	ahead := state(t, d)
	if got := told(t, d, line); got != "what\n" {
		t.Errorf("%s: %q, want what", short(line), got)
	}
	if behind := state(t, d); behind != ahead {
		t.Errorf("%s: something was done: %s, ahead: %s", short(line), behind, ahead)
	}
}

// wantAlike asks that a line tells and does what another one does.
func wantAlike(t *testing.T, line, other string) {
	t.Helper()
	a, b := begun(t), begun(t)
	if x, y := told(t, a, line), told(t, b, other); x != y || x == "what\n" {
		t.Errorf("%s: %q, but %q: %q", short(line), x, other, y)
	}
	if x, y := state(t, a), state(t, b); x != y {
		t.Errorf("%s: %s, but %q: %s", short(line), x, other, y)
	}
}

// filled tells a form with words that fit for its letters.
func filled(form string) []string {
	words := strings.Fields(form)
	for i, word := range words[1:] {
		words[i+1] = map[string]string{"P": "1", "Q": "0", "K": "1", "R": "ra", "G": "0", "H": "0", "N": "-7"}[word]
	}
	return words
}

func TestWordsAndBlanks(t *testing.T) {
	for _, form := range forms {
		words := filled(form)
		line := strings.Join(words, " ")
		for _, other := range []string{
			strings.Join(words, "  "), strings.Join(words, strings.Repeat(" ", 50)), " " + line, line + " ", "   " + line + "   ", "  " + strings.Join(words, "   ") + " ", strings.Repeat(" ", 5000) + line + strings.Repeat(" ", 5000),
		} {
			wantAlike(t, other, line)
		}
	}
}

// Other bytes than blanks part no words.
func TestBytesThatAreNoBlanks(t *testing.T) {
	for _, form := range forms {
		words := filled(form)
		line := strings.Join(words, " ")
		for b := range 256 {
			if b == ' ' || b == '\n' {
				continue
			}
			c := string([]byte{byte(b)})
			if b != '|' {
				wantWhat(t, c+line)
				wantWhat(t, c+" "+line)
			}
			wantWhat(t, line+" "+c)
			if len(words) == 1 || !strings.ContainsAny(c, "0123456789") {
				wantWhat(t, line+c)
			}
			if len(words) > 1 {
				wantWhat(t, strings.Join(words, c))
				wantWhat(t, words[0]+c+strings.Join(words[1:], " "))
			}
		}
		for _, wide := range []string{"\u00a0", "\u2003", "\u3000", "\u0085", "\u2028", "\ufeff", "\xc2", "\xa0"} {
			wantWhat(t, wide+line)
			wantWhat(t, line+wide)
			wantWhat(t, words[0]+wide+" "+strings.Join(words[1:], " "))
		}
	}
}

func TestLinesWithoutWords(t *testing.T) {
	for _, line := range []string{"", " ", "  ", strings.Repeat(" ", 100000)} {
		d := begun(t)
		ahead := state(t, d)
		if got := told(t, d, line, line); got != "" {
			t.Errorf("%s: %q, want nothing", short(line), got)
		}
		if state(t, d) != ahead {
			t.Errorf("%s: something was done", short(line))
		}
	}
	wantTalk(t, slices.Concat(quiet("", " "), []said{{"gate", "yes 0"}}, quiet("", "    "), []said{{"gate", "yes 1"}}, quiet(""))...)
	// Bytes that are no blanks are words.
	for _, line := range []string{"\t", "\r", " \t ", "\x00", "\xff", "\u00a0", "\v\f", "a", "what", "end", "-", "0", "#"} {
		wantWhat(t, line)
	}
}

func TestWordsTooFewAndTooMany(t *testing.T) {
	for _, form := range forms {
		words := filled(form)
		for i := range words {
			if len(words) > 1 {
				wantWhat(t, strings.Join(slices.Delete(slices.Clone(words), i, i+1), " "))
			}
			wantWhat(t, strings.Join(slices.Insert(slices.Clone(words), i, words[i]), " "))
		}
		for _, more := range []string{"0", "1", "-1", "r", "x", "0 0", "0 0 0 0 0 0 0", "|", "new", strings.Repeat("1 ", 1000)} {
			wantWhat(t, strings.Join(words, " ")+" "+more)
		}
		for some := 1; some < len(words); some++ {
			wantWhat(t, strings.Join(words[:some], " "))
		}
	}
}

func TestFirstWordsThatAreNone(t *testing.T) {
	for _, form := range forms {
		words := filled(form)
		first, rest := words[0], strings.Join(words[1:], " ")
		for _, word := range []string{
			strings.ToUpper(first), strings.ToUpper(first[:1]) + first[1:], first[1:], first[:len(first)-1], first + "s", first + first, "x" + first, "-" + first, first + "\t", first + "\x00", "\"" + first + "\"", first + ":", "what", "yes", "no", "end", "|", "s" + first, "0",
		} {
			if word == "|" {
				word = " |"
			}
			wantWhat(t, word+" "+rest)
		}
	}
	// Each first word with what stands behind the others.
	for _, form := range forms {
		for _, other := range forms {
			a, b := filled(form), filled(other)
			if len(a) != len(b) {
				wantWhat(t, strings.Join(append(a[:1:1], b[1:]...), " "))
			}
		}
	}
}

// notNumbers are words that are no numbers, or not as short as can be, or beyond 64 bits.
var notNumbers = []string{
	"+1", "+0", "-0", "00", "01", "-01", "007", "-00", "0000000000000000000001", "--1", "-", "+", "1-", "1+", "1.0", "1e0", "0x1", "0b1", "0o1", "1_0", "_1", "1,0", "x", "r", "-r", "#1", "!1", "(1)", "nil",
	"\t1", "1\t", "1\r", "\x001", "1\x00", "١", "１", "\xff", "inf", "NaN", "9223372036854775808", "-9223372036854775809", "18446744073709551615", "18446744073709551616", "18446744073709551617", "-18446744073709551615",
	"9999999999999999999", "99999999999999999999999999", "-99999999999999999999999999", "1" + strings.Repeat("0", 400), strings.Repeat("0", 400) + "1", "-" + strings.Repeat("9", 1000),
}

// notRights are words that are no rights.
var notRights = []string{
	"x", "R", "W", "P", "A", "RW", "wr", "rr", "pr", "ar", "ap", "rwap", "rwpaa", "rwpar", "rwpax", "--", "-r", "r-", "rw-", "0", "1", "15", "16", "-1", "r,w", "r\t", "\tr", "read", "rwpa.", "\x00", "\xff", "ｒ", "nil", strings.Repeat("r", 500),
}

func TestNumbersAndRightsThatAreNone(t *testing.T) {
	for _, form := range forms {
		letters := strings.Fields(form)
		for i := 1; i < len(letters); i++ {
			words, wrong := filled(form), notNumbers
			if letters[i] == "R" {
				wrong = notRights
			}
			for _, word := range wrong {
				words[i] = word
				wantWhat(t, strings.Join(words, " "))
			}
		}
	}
}

// The least and the greatest numbers of 64 bits are numbers, at each place of each line.
func TestGreatNumbers(t *testing.T) {
	for _, form := range forms {
		letters := strings.Fields(form)
		for i := 1; i < len(letters); i++ {
			for _, n := range []string{"9223372036854775807", "-9223372036854775808", "9223372036854775806", "-9223372036854775807", "4294967297", "-4294967295", "1000000000000000000", "-1", "0", "1"} {
				words := filled(form)
				if letters[i] == "R" {
					continue
				}
				words[i] = n
				line := strings.Join(words, " ")
				if got := told(t, begun(t), line); got == "what\n" || got != modelOf(t, begunLines...).tell(line) {
					t.Errorf("%q: %q", line, got)
				}
			}
		}
	}
}

// A number of a field in which it can't be is one of none, not one of its low bits.
func TestNumbersOfNone(t *testing.T) {
	far := []string{"4294967296", "4294967297", "-4294967295", "9223372036854775807", "-9223372036854775808", "256", "257"}
	talk := append(module(1, identity), said{"gate", "yes 0"}, said{"gate", "yes 1"}, said{"grant 1 1 r -1", "yes #0"}, said{"grant 1 1 r -1", "yes #1"})
	for _, n := range far {
		for form, code := range map[string]string{
			"grant %s 1 r -1": "1", "grant 1 %s r -1": "1", "grant 1 1 r %s": "8", "link %s 1 1 r -1": "1", "link 1 %s 1 r -1": "1", "link 1 1 %s r -1": "1", "link 1 1 1 r %s": "8",
			"cut %s": "8", "call %s 0 0": "8", "call 1 %s 0": "8", "value %s 0 0": "1", "value 1 %s 0": "8",
		} {
			talk = append(talk, said{fmt.Sprintf(form, n), "no " + code})
		}
		talk = append(talk, said{"hand " + n, "hand"}, said{"kept " + n, "kept nil"}, said{"value 1 0 " + n, "yes " + n + " 1"})
	}
	wantTalk(t, append(talk, said{"hand 1", "hand #0 #1"}, said{"gate", "yes 2"})...)
}
