package desk

import (
	"fmt"
	"math/big"
	"regexp"
	"strings"
	"testing"

	"letterlock/api"
	"letterlock/parse"
	"letterlock/watch"
)

// model is a second reckoning: a watch, and all lines of the text, read by patterns.
type model struct {
	w     *watch.Watch
	lines []string
}

// modelOf tells a model to which lines were told.
func modelOf(t *testing.T, lines ...string) *model {
	t.Helper()
	m := &model{w: watch.New()}
	for _, line := range lines {
		m.tell(line)
	}
	return m
}

// patterns are the lines of the table, in order of forms.
var patterns = func() []*regexp.Regexp {
	var l []*regexp.Regexp
	for _, form := range forms {
		p := regexp.MustCompile(" [A-Z]").ReplaceAllStringFunc(form, func(s string) string {
			if s == " R" {
				return " +(-|r?w?p?a?)"
			}
			return " +(0|-?[1-9][0-9]*)"
		})
		l = append(l, regexp.MustCompile("^ *"+p+" *$"))
	}
	return l
}()

// asked tells which line of the table a line is, and the texts of its letters; "": none.
func asked(line string) (string, map[string]string) {
	for i, p := range patterns {
		l := p.FindStringSubmatch(line)
		if l == nil {
			continue
		}
		words := strings.Fields(forms[i])
		texts := map[string]string{}
		for k, letter := range words[1:] {
			texts[letter] = l[k+1]
			n, _ := new(big.Int).SetString(l[k+1], 10)
			if letter != "R" && !n.IsInt64() || l[k+1] == "" {
				return "", nil
			}
		}
		return words[0], texts
	}
	return "", nil
}

func integer(text string) int64 {
	n, ok := new(big.Int).SetString(text, 10)
	if !ok {
		return 0
	}
	return n.Int64()
}

// tell tells what is told of a line.
func (m *model) tell(line string) string {
	if line == "" || line[0] == '|' {
		if line != "" {
			m.lines = append(m.lines, line[1:])
		}
		return ""
	}
	if strings.Trim(line, " ") == "" {
		return ""
	}
	word, texts := asked(line)
	n := func(letter string) int { return int(integer(texts[letter])) }
	x := api.Step{P: n("P"), Q: n("Q"), K: n("K"), G: n("G"), R: place(texts["R"])}
	switch word {
	case "new":
		m.lines = nil
		return ""
	case "load":
		x.Kind = api.SLoad
		var f api.Fault
		if x.M, f = parse.Parse(strings.Join(m.lines, "\n")); f.Code != 0 {
			return fmt.Sprintln("no", f.Code, f.At)
		}
	case "grant":
		x.Kind = api.SGrant
	case "link":
		x.Kind = api.SLink
	case "cut":
		x.Kind = api.SCut
	case "gate":
		x.Kind = api.SGate
	case "call":
		x.Kind = api.SCall
		if n("H") > 0 {
			x.H = n("H")
		}
	case "value":
		x.Kind, x.H, x.N = api.SCall, -4, integer(texts["N"])
	default:
		return m.look(word, x.P)
	}
	return m.event(x)
}

// place tells the rights of a text.
func place(text string) int {
	for r, s := range allRights {
		if s == text {
			return r
		}
	}
	return 0
}

// event tells what a step comes to.
func (m *model) event(x api.Step) string {
	e, f := m.w.Do(x)
	switch {
	case f.Code != 0:
		return fmt.Sprintln("no", f.Code, f.At)
	case e.Code != 0:
		return fmt.Sprintln("no", e.Code)
	case x.Kind == api.SCall:
		return fmt.Sprintln("yes", textOf(e.V), e.Fuel)
	}
	return fmt.Sprintln("yes", textOf(e.V))
}

// look tells what is told without a step.
func (m *model) look(word string, p int) string {
	s := word
	switch word {
	case "hand":
		for _, v := range m.w.Hand(p) {
			s += " " + textOf(v)
		}
	case "kept":
		s += " " + textOf(m.w.Kept(p))
	case "log":
		s = ""
		for _, e := range m.w.World.Log() {
			s += fmt.Sprintf("%d %s %d #%d\n", e.Plugin, allRights[e.Right], e.Cell, e.Node)
		}
		s += "end"
	case "cells":
		s += strings.Trim(fmt.Sprintf(" %d", m.w.World.Cells()), "]")
		s = strings.Replace(s, "[", "", 1)
	default:
		s = "what"
	}
	return s + "\n"
}

func textOf(v api.Val) string {
	switch v.Kind {
	case api.VInt:
		return fmt.Sprint(v.N)
	case api.VPair:
		return fmt.Sprintf("(%s %s)", textOf(v.L[0]), textOf(v.L[1]))
	case api.VSeal:
		return fmt.Sprintf("[%d %s]", v.N, textOf(v.L[0]))
	case api.VCap:
		return fmt.Sprintf("#%d", v.N)
	case api.VGate:
		return fmt.Sprintf("!%d", v.N)
	}
	return "nil"
}
