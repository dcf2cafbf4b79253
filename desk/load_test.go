package desk

import (
	"fmt"
	"math/rand"
	"slices"
	"strings"
	"testing"

	"letterlock/api"
	"letterlock/parse"
)

// wantLoad asks for what is told of a load behind lines of the text.
func wantLoad(t *testing.T, told string, lines ...string) {
	t.Helper()
	var talk []said
	for _, line := range lines {
		talk = append(talk, said{"|" + line, ""})
	}
	// The text stays behind a load: so the same is told again.
	wantTalk(t, append(talk, said{"load 1", told}, said{"load 1", told}, said{"kept 1", "kept nil"}, said{"load 2", told})...)
}

func TestLoadOfModules(t *testing.T) {
	wantLoad(t, "yes nil", "fun (nil)")
	wantLoad(t, "yes nil", "fun (nil)", "fun (arg)")
	wantLoad(t, "yes nil", "fun", "(", "nil", ")")
	wantLoad(t, "yes nil", "", "  ", "fun (", "", "\t", "nil", " ", ") ", "")
	wantLoad(t, "yes nil", "fun(nil)fun(arg)", "\r", "fun(kept)\r")
	wantLoad(t, "yes nil", slices.Repeat([]string{"fun (num -5)"}, api.MaxFuncs)...)
}

// Between lines there is a newline: what stands at their ends is not one word.
func TestNewlinesBetweenLines(t *testing.T) {
	wantLoad(t, "no 5 0", "fu", "n (nil)")
	wantLoad(t, "no 5 5", "fun (ni", "l)")
	wantTalk(t, append(module(0, "fun (num 1", ")"), said{"value 0 0 0", "yes 1 1"})...)
	wantLoad(t, "no 5 11", "fun (num 1", "2)")
	wantLoad(t, "no 7 9", "fun (num -", "2)")
}

// Faults at a byte are told as of the lines with newlines between: none stands ahead of the first one or behind the last one.
func TestFaultsOfTexts(t *testing.T) {
	deep := "fun " + strings.Repeat("(fst ", api.MaxDeep+1)
	for _, x := range []struct {
		told  string
		lines []string
	}{
		{"no 3 -1", nil}, {"no 3 -1", []string{""}}, {"no 3 -1", []string{"   "}}, {"no 3 -1", []string{"", ""}}, {"no 3 -1", []string{"", " ", "\t", "", "\r"}},
		{"no 3 -1", slices.Repeat([]string{"fun (nil)"}, api.MaxFuncs+1)},
		// ErrText
		{"no 7 0", []string{"?"}}, {"no 7 2", []string{"", "", "?"}}, {"no 7 10", []string{"fun (nil)", "|fun (nil)"}}, {"no 7 11", []string{"fun (nil)", " #", "fun (nil)"}}, {"no 7 9", []string{"fun (num 05)"}},
		{"no 7 14", []string{"", "", "fun", "", "  (num 9223372036854775808)"}}, {"no 7 0", []string{"\x00"}}, {"no 7 4", []string{"fun \xff"}}, {"no 7 3", []string{"fun\x80", "(nil)"}}, {"no 7 0", []string{"Fun (nil)"}},
		// ErrForm
		{"no 5 0", []string{"fan (nil)"}}, {"no 5 10", []string{"fun (nil)", "nil"}}, {"no 5 9", []string{"fun (bin or (arg) (arg))"}}, {"no 5 5", []string{"fun", "(what)"}}, {"no 5 4", []string{"fun", ")"}}, {"no 5 0", []string{"load 1"}},
		// ErrShort at the text's length
		{"no 6 3", []string{"fun"}}, {"no 6 4", []string{"fun", ""}}, {"no 6 5", []string{"fun", "", ""}}, {"no 6 6", []string{"fun", "  "}}, {"no 6 8", []string{"fun (nil"}}, {"no 6 14", []string{"fun (nil)", "fun", ""}}, {"no 6 5", []string{"", "fun", ""}},
		// ErrRange at a number, ErrDeep at a bracket
		{"no 1 12", []string{"fun (narrow 1000 (arg))"}}, {"no 1 12", []string{"", "fun", "", "(var", " -1)"}}, {"no 4 159", []string{deep + "(nil"}}, {"no 4 161", []string{"", deep, "(nil"}}, {"no 4 159", []string{deep}},
		// code.Check's, at a function
		{"no 1 0", []string{"fun (narrow 16 (arg))"}}, {"no 1 1", []string{"fun (nil)", "fun (var 0)"}}, {"no 1 2", []string{"fun (nil) fun", "(nil)", "fun (call 3 (nil))"}},
		{"no 3 1", []string{"fun (nil)", "fun " + strings.Repeat("(let (nil) ", api.MaxLets+1) + "(nil)" + strings.Repeat(")", api.MaxLets+1)}},
		{"no 3 0", []string{"fun " + full(6)}},
	} {
		wantLoad(t, x.told, x.lines...)
		_, f := parse.Parse(strings.Join(x.lines, "\n"))
		if want := fmt.Sprintf("no %d %d", f.Code, f.At); want != x.told {
			t.Errorf("%q: %s, but parse.Parse tells %s", x.lines, x.told, want)
		}
	}
}

// full tells pairs in one another, of so many levels.
func full(levels int) string {
	if levels == 0 {
		return "(nil)"
	}
	return "(pair " + full(levels-1) + " " + full(levels-1) + ")"
}

// A text's fault is told ahead of what is wrong with the plugin.
func TestLoadOfNoPlugin(t *testing.T) {
	for _, p := range []string{"4", "-1", "5", "4294967296", "9223372036854775807", "-9223372036854775808"} {
		wantTalk(t, said{"load " + p, "no 3 -1"}, said{"|fun (nil)", ""}, said{"load " + p, "no 1"}, said{"|?", ""}, said{"load " + p, "no 7 10"}, said{"load 0", "no 7 10"}, said{"value 0 0 0", "no 8"})
	}
	wantTalk(t, said{"|fun (nil)", ""}, said{"load 0", "yes nil"}, said{"load 1", "yes nil"}, said{"load 2", "yes nil"}, said{"load 3", "yes nil"}, said{"load 4", "no 1"}, said{"value 3 0 0", "yes nil 1"})
}

func TestTheTextStays(t *testing.T) {
	wantTalk(t,
		said{"|fun (num 1)", ""}, said{"load 0", "yes nil"}, said{"|fun (num 2)", ""}, said{"value 0 1 0", "no 8"}, said{"load 1", "yes nil"}, said{"value 1 1 0", "yes 2 1"}, said{"value 0 1 0", "no 8"},
		// with a fault, too, and with lines that are not of it
		said{"|x", ""}, said{"load 2", "no 5 24"}, said{"gate", "yes 0"}, said{"x", "what"}, said{"", ""}, said{"load 2", "no 5 24"}, said{"new 1", "what"}, said{"load 2", "no 5 24"}, said{"load", "what"},
		// A load that fails takes nothing away.
		said{"load 0", "no 5 24"}, said{"value 0 0 0", "yes 1 1"}, said{"value 1 1 0", "yes 2 1"},
		// Behind new it is gone, but what was loaded is not.
		said{"new", ""}, said{"load 2", "no 3 -1"}, said{"load 0", "no 3 -1"}, said{"value 1 1 0", "yes 2 1"}, said{"new", ""}, said{"  new  ", ""},
		said{"|fun (num 3)", ""}, said{"load 2", "yes nil"}, said{"value 2 0 0", "yes 3 1"}, said{"value 2 1 0", "no 8"},
	)
}

// Behind new the text begins with no lines, not with an empty one.
func TestNewLetsNoLineBe(t *testing.T) {
	wantTalk(t, said{"|", ""}, said{"|", ""}, said{"|?", ""}, said{"load 0", "no 7 2"}, said{"new", ""}, said{"|?", ""}, said{"load 0", "no 7 0"}, said{"new", ""}, said{"|", ""}, said{"|?", ""}, said{"load 0", "no 7 1"})
	wantTalk(t, said{"new", ""}, said{"|fun", ""}, said{"load 0", "no 6 3"}, said{"|", ""}, said{"load 0", "no 6 4"})
}

// A line that begins with | is text, whatever stands behind that.
func TestLinesOfTheText(t *testing.T) {
	for _, line := range []string{"new", "load 0", "gate", "log", "cells", "hand 0", " ", "   ", "", "| fun", "|", "||", "|gate", " |", "\t", "?", "\x00", "\xff\xfe", "what"} {
		_, f := parse.Parse("fun (nil)\n" + line)
		want := said{"load 0", fmt.Sprintf("no %d %d", f.Code, f.At)}
		if f.Code == 0 {
			want.told = "yes nil"
		}
		wantTalk(t, said{"|fun (nil)", ""}, said{"|" + line, ""}, want, said{"gate", "yes 0"})
	}
	// A blank ahead of it makes it words.
	wantTalk(t, said{" |fun (nil)", "what"}, said{" |", "what"}, said{"  |  ", "what"}, said{"\t|fun (nil)", "what"}, said{"load 0", "no 3 -1"}, said{"| fun (nil)", ""}, said{"load 0", "yes nil"})
}

// long tells lines of so many bytes, with the newlines between, that are a module.
func long(bytes, lines int) []string {
	l := append([]string{"fun (nil)"}, make([]string, lines-1)...)
	l[len(l)-1] += strings.Repeat(" ", bytes-len(strings.Join(l, "\n")))
	return l
}

func TestTextsAsLongAsMayBe(t *testing.T) {
	tooMany := fmt.Sprint("no 3 ", api.MaxText)
	for _, lines := range []int{1, 2, 3, 50, 170} {
		wantLoad(t, "yes nil", long(api.MaxText-1, lines)...)
		wantLoad(t, "yes nil", long(api.MaxText, lines)...)
		wantLoad(t, tooMany, long(api.MaxText+1, lines)...)
		wantLoad(t, tooMany, long(api.MaxText+2, lines)...)
		wantLoad(t, tooMany, long(3*api.MaxText, lines)...)
	}
	// Also where the last line is empty: the newline ahead of it counts.
	wantLoad(t, "yes nil", append(long(api.MaxText-1, 2), "")...)
	wantLoad(t, tooMany, append(long(api.MaxText, 2), "")...)
	wantLoad(t, tooMany, append(long(api.MaxText+1, 1), "", "fun (nil)")...)
	wantLoad(t, tooMany, "?"+strings.Repeat("x", api.MaxText))
}

// A text that is too long stays so whatever comes, until it is gone.
func TestTextsThatAreTooLong(t *testing.T) {
	tooMany := fmt.Sprint("no 3 ", api.MaxText)
	for _, bytes := range []int{api.MaxText, api.MaxText + 1, api.MaxText + 2, 2 * api.MaxText, 1 << 20} {
		talk := quiet("|" + strings.Repeat(" ", bytes))
		if bytes == api.MaxText {
			talk = append(talk, said{"load 0", "no 3 -1"}, said{"|", ""})
		}
		for range 5 {
			talk = append(talk, said{"load 0", tooMany}, said{"load 9", tooMany}, said{"|fun (nil)", ""}, said{"|?", ""}, said{"|", ""})
		}
		wantTalk(t, append(talk, said{"new", ""}, said{"load 0", "no 3 -1"}, said{"|fun (nil)", ""}, said{"load 0", "yes nil"}, said{"load 9", "no 1"})...)
	}
}

func TestVeryManyLinesOfTheText(t *testing.T) {
	d := New()
	lines := slices.Repeat([]string{"|"}, api.MaxLines)
	for range 30 {
		told(t, d, lines...)
	}
	// These are MaxText lines without bytes, and so a newline fewer.
	if got, want := told(t, d, "load 0", "|", "load 0", "|", "load 0"), fmt.Sprintf("no 3 -1\nno 3 -1\nno 3 %d\n", api.MaxText); got != want {
		t.Errorf("%q, want %q", got, want)
	}
	if got := told(t, d, append([]string{"new"}, lines[1:]...)...); got != "" {
		t.Errorf("%q", got)
	}
	if got := told(t, d, "|?", "load 0"); got != "no 7 199\n" {
		t.Errorf("%q", got)
	}
	for range 5000 {
		told(t, d, lines...)
	}
	if got, want := told(t, d, "load 0", "new", "|fun (nil)", "load 0"), fmt.Sprintf("no 3 %d\nyes nil\n", api.MaxText); got != want {
		t.Errorf("%q, want %q", got, want)
	}
}

// Of a text that is too long no more is kept than is told.
func TestLongTextsAreNotKept(t *testing.T) {
	d := New()
	lines := slices.Repeat([]string{"|" + strings.Repeat("fun (nil) ", 100000)}, api.MaxLines)
	for range 20 {
		told(t, d, lines...)
	}
	if len(d.text) > 4*api.MaxText {
		t.Errorf("%d bytes are kept", len(d.text))
	}
}

// Any lines are loaded as parse.Parse reads them with newlines between.
func TestLoadOfManyTexts(t *testing.T) {
	r := rand.New(rand.NewSource(4))
	pieces := []string{"fun", "(nil)", "(arg)", "(num 3)", "(", ")", "", " ", "fun (fst (arg))", "fun (nil)", "fun (kept) ", "pair", "(pair (nil)", "fst", "narrow 3", "17", "-", "fun (seal", "\t", "bin add", "?"}
	often := map[int]int{}
	for range 4000 {
		var talk []said
		var lines []string
		for range r.Intn(9) {
			line := ""
			for range 1 + r.Intn(3) {
				line += pieces[min(r.Intn(len(pieces)), r.Intn(len(pieces)), r.Intn(2*len(pieces)))]
			}
			lines = append(lines, line)
			talk = append(talk, said{"|" + line, ""})
			_, f := parse.Parse(strings.Join(lines, "\n"))
			often[f.Code]++
			if f.Code == 0 {
				talk = append(talk, said{"load 3", "yes nil"})
			} else {
				talk = append(talk, said{"load 3", fmt.Sprintf("no %d %d", f.Code, f.At)})
			}
		}
		wantTalk(t, talk...)
	}
	for _, code := range []int{0, api.ErrMany, api.ErrForm, api.ErrShort, api.ErrText} {
		if often[code] < 20 {
			t.Errorf("the code %d came %d times only", code, often[code])
		}
	}
}
