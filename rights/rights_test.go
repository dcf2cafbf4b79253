package rights

import (
	"math"
	"strings"
	"testing"

	"letterlock/api"
)

// told are the texts of all rights, each at its number, written out from the document.
var told = []string{
	"-", "r", "w", "rw", "p", "rp", "wp", "rwp",
	"a", "ra", "wa", "rwa", "pa", "rpa", "wpa", "rwpa",
}

// edges are numbers at which a sum of rights begins, ends, or is long left behind.
var edges = []int{
	math.MinInt, math.MinInt + 1, -16, -15, -8, -2, -1,
	0, 1, 2, 4, 7, 8, 14, api.RAll, 16, 17, 31, 255, math.MaxInt - 1, math.MaxInt,
}

func bit(n, i int) bool {
	return uint64(n)>>i&1 == 1
}

func TestCheck(t *testing.T) {
	for r := range told {
		if !Check(r) {
			t.Errorf("Check(%d) is false", r)
		}
	}
	for _, r := range []int{-1, -8, -15, -16, 16, 17, 31, 1 << 32, 1<<32 + 1, math.MinInt, math.MinInt + 1, math.MaxInt} {
		if Check(r) {
			t.Errorf("Check(%d) is true", r)
		}
	}
}

func TestHas(t *testing.T) {
	for _, x := range []struct {
		r, want int
		is      bool
	}{
		{7, 5, true}, {5, 7, false}, {5, 2, false}, {6, 3, false},
		{0, 0, true}, {15, 0, true}, {0, 1, false}, {15, 15, true}, {14, 15, false},
		{15, 16, false}, {16, 16, true}, {31, 16, true}, {16, 15, false},
		{-1, 15, true}, {-1, -1, true}, {15, -1, false}, {-2, 1, false}, {-16, 16, true}, {0, math.MinInt, false},
		{math.MinInt, math.MinInt, true}, {math.MaxInt, math.MinInt, false}, {math.MinInt, 0, true},
	} {
		if Has(x.r, x.want) != x.is {
			t.Errorf("Has(%d, %d) is not %v", x.r, x.want, x.is)
		}
	}
}

func TestHasBitByBit(t *testing.T) {
	for _, r := range edges {
		for _, want := range edges {
			all := true
			for i := range 64 {
				all = all && (bit(r, i) || !bit(want, i))
			}
			if Has(r, want) != all {
				t.Errorf("Has(%d, %d) is not %v", r, want, all)
			}
		}
	}
}

func TestMeet(t *testing.T) {
	for _, x := range []struct{ a, b, both int }{
		{6, 3, 2}, {5, 10, 0}, {15, 9, 9}, {0, 15, 0}, {15, 15, 15}, {0, 0, 0},
		{31, 16, 16}, {31, 15, 15}, {-1, 6, 6}, {-1, -1, -1}, {-16, 15, 0}, {-16, 31, 16},
		{-1, 1 << 40, 1 << 40}, {math.MinInt, -1, math.MinInt}, {math.MinInt, math.MaxInt, 0},
	} {
		if got := Meet(x.a, x.b); got != x.both {
			t.Errorf("Meet(%d, %d) = %d, want %d", x.a, x.b, got, x.both)
		}
	}
}

func TestMeetBitByBit(t *testing.T) {
	for _, a := range edges {
		for _, b := range edges {
			got := Meet(a, b)
			for i := range 64 {
				if bit(got, i) != (bit(a, i) && bit(b, i)) {
					t.Errorf("Meet(%d, %d) = %d: bit %d is wrong", a, b, got, i)
				}
			}
		}
	}
}

func TestText(t *testing.T) {
	for r, want := range told {
		if got := Text(r); got != want {
			t.Errorf("Text(%d) = %q, want %q", r, got, want)
		}
	}
}

func TestTextOfNamedRights(t *testing.T) {
	for r, want := range map[int]string{api.RRead: "r", api.RWrite: "w", api.RPass: "p", api.RAsk: "a", api.RAll: "rwpa"} {
		if got := Text(r); got != want {
			t.Errorf("Text(%d) = %q, want %q", r, got, want)
		}
	}
}

func TestTextBeyondRights(t *testing.T) {
	for r, want := range map[int]string{
		16: "-", 17: "r", 31: "rwpa", 1 << 62: "-", 1<<62 + 10: "wa",
		-1: "rwpa", -2: "wpa", -15: "r", -16: "-", -8: "a",
		math.MinInt: "-", math.MinInt + 4: "p", math.MaxInt: "rwpa",
	} {
		if got := Text(r); got != want {
			t.Errorf("Text(%d) = %q, want %q", r, got, want)
		}
	}
}

func TestParse(t *testing.T) {
	for want, s := range told {
		if r, ok := Parse(s); r != want || !ok {
			t.Errorf("Parse(%q) = %d, %v, want %d, true", s, r, ok, want)
		}
	}
}

func TestParseWrong(t *testing.T) {
	for _, s := range []string{
		"",
		"wr", "pr", "ar", "pw", "aw", "ap", "rpw", "wpr", "apwr", "rwap", "awr",
		"rr", "ww", "pp", "aa", "rrw", "rwr", "rwpar", "rwpaa", "rwparwpa",
		"x", "rx", "xr", "R", "RWPA", "0", "1", "15", "rwpax", "q", "s", "b",
		" ", " r", "r ", "r w", "\n", "r\n", "\x00", "r\x00", "\x00r", "\xff", "r\xff", "r,w", "é", "ｒ",
		"--", "-r", "r-", "rwpa-", "-rwpa", "r-w", "- ", " -", "-\x00", "−",
	} {
		if r, ok := Parse(s); r != 0 || ok {
			t.Errorf("Parse(%q) = %d, %v, want 0, false", s, r, ok)
		}
	}
}

// TestParseAllShort holds every text of up to five of the bytes that matter against the written-out ones.
func TestParseAllShort(t *testing.T) {
	known := map[string]int{}
	for r, s := range told {
		known[s] = r
	}
	var walk func(s string)
	walk = func(s string) {
		want, is := known[s]
		if r, ok := Parse(s); r != want || ok != is {
			t.Errorf("Parse(%q) = %d, %v, want %d, %v", s, r, ok, want, is)
		}
		if len(s) == 5 {
			return
		}
		for _, c := range []string{"r", "w", "p", "a", "-", "x"} {
			walk(s + c)
		}
	}
	walk("")
}

func TestParseEveryByte(t *testing.T) {
	for c := range 256 {
		s := string([]byte{byte(c)})
		want := strings.Index("rwpa", s)
		is := want >= 0 || s == "-"
		n := 0
		if want >= 0 {
			n = 1 << want
		}
		if r, ok := Parse(s); r != n || ok != is {
			t.Errorf("Parse(%q) = %d, %v, want %d, %v", s, r, ok, n, is)
		}
	}
}

func TestParseLong(t *testing.T) {
	for _, c := range []string{"r", "-", "x", "rwpa"} {
		if r, ok := Parse(strings.Repeat(c, 1<<20)); r != 0 || ok {
			t.Errorf("Parse of many %q = %d, %v, want 0, false", c, r, ok)
		}
	}
}

func TestThereAndBack(t *testing.T) {
	for _, n := range edges {
		if r, ok := Parse(Text(n)); r != Meet(n, api.RAll) || !ok {
			t.Errorf("Parse(Text(%d)) = %d, %v", n, r, ok)
		}
	}
}

// TestAlike asks everything twice, the second time backwards: no answer may hang on what was asked ahead.
func TestAlike(t *testing.T) {
	type answer struct {
		check, has, ok bool
		meet, parsed   int
		text           string
	}
	ask := func(i int) answer {
		a, b := edges[i], edges[len(edges)-1-i]
		parsed, ok := Parse(Text(a))
		return answer{Check(a), Has(a, b), ok, Meet(a, b), parsed, Text(a)}
	}
	first := make([]answer, len(edges))
	for i := range edges {
		first[i] = ask(i)
	}
	for i := len(edges) - 1; i >= 0; i-- {
		if again := ask(i); again != first[i] {
			t.Errorf("of %d: first %v, then %v", edges[i], first[i], again)
		}
	}
}

// FuzzParse: what Parse takes is what Text tells, and nothing else.
func FuzzParse(f *testing.F) {
	for _, s := range append([]string{"", "wr", "rr", "r-", "\xff"}, told...) {
		f.Add(s)
	}
	f.Fuzz(func(t *testing.T, s string) {
		r, ok := Parse(s)
		if ok && (!Check(r) || Text(r) != s) || !ok && r != 0 {
			t.Errorf("Parse(%q) = %d, %v", s, r, ok)
		}
	})
}
