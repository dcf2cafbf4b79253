package desk

import (
	"strconv"
	"strings"

	"letterlock/api"
	"letterlock/rights"
	"letterlock/vals"
)

// talk is a desk that is asked something, and what it told so far.
type talk struct {
	*Desk
	told strings.Builder
}

// tell tells one thing more.
func (t *talk) tell(words ...string) {
	t.told.WriteString(strings.Join(words, " "))
	t.told.WriteString("\n")
}

// no tells that something could not be: a code, and where it is a fault's, at what.
func (t *talk) no(numbers ...int) {
	words := []string{"no"}
	for _, n := range numbers {
		words = append(words, strconv.Itoa(n))
	}
	t.tell(words...)
}

// line does what a line asks for.
func (t *talk) line(line string) {
	if text, ok := strings.CutPrefix(line, "|"); ok {
		t.add(text)
		return
	}
	if words := wordsOf(line); len(words) > 0 {
		t.ask(words[0], words[1:]...)
	}
}

// ask does what words ask for, if the table has such a line.
func (t *talk) ask(first string, others ...string) {
	for _, r := range t.table() {
		if x, ok := r.read(first, others); ok {
			r.do(x)
			return
		}
	}
	t.tell("what")
}

// step answers what does a step that lacks nothing but its kind.
func (t *talk) step(kind int) func(api.Step) {
	return func(x api.Step) {
		x.Kind = kind
		t.event(x)
	}
}

// event does a step, and tells what it came to.
func (t *talk) event(x api.Step) {
	e, fault := t.Watch.Do(x)
	switch {
	case fault.Code != 0:
		t.no(fault.Code, fault.At)
	case e.Code != 0:
		t.no(e.Code)
	case x.Kind == api.SCall:
		t.tell("yes", vals.Text(e.V), strconv.Itoa(e.Fuel))
	default:
		t.tell("yes", vals.Text(e.V))
	}
}

func (t *talk) load(x api.Step) {
	m, fault := t.module()
	if fault.Code != 0 {
		t.no(fault.Code, fault.At)
		return
	}
	x.Kind, x.M = api.SLoad, m
	t.event(x)
}

// call calls with a thing in any case: a step without one would be a call with a number.
func (t *talk) call(x api.Step) {
	x.Kind, x.H = api.SCall, max(x.H, 0)
	t.event(x)
}

func (t *talk) value(x api.Step) {
	x.Kind, x.H = api.SCall, -1
	t.event(x)
}

func (t *talk) hand(x api.Step) {
	words := []string{"hand"}
	for _, v := range t.Hand(x.P) {
		words = append(words, vals.Text(v))
	}
	t.tell(words...)
}

func (t *talk) kept(x api.Step) {
	t.tell("kept", vals.Text(t.Kept(x.P)))
}

func (t *talk) log(api.Step) {
	for _, e := range t.World.Log() {
		t.tell(strconv.Itoa(e.Plugin), rights.Text(e.Right), strconv.Itoa(e.Cell), "#"+strconv.Itoa(e.Node))
	}
	t.tell("end")
}

func (t *talk) cells(api.Step) {
	words := []string{"cells"}
	for _, n := range t.World.Cells() {
		words = append(words, strconv.FormatInt(n, 10))
	}
	t.tell(words...)
}
