package token

import (
	"fmt"
	"math"
	"math/big"
	"math/rand"
	"regexp"
	"slices"
	"strings"
	"testing"
	"unsafe"

	"letterlock/api"
)

const blanks = " \t\n\r"

func sign(at int, text string) Token { return Token{At: at, Text: text} }

func num(at int, n int64) Token {
	return Token{At: at, Text: big.NewInt(n).String(), Num: true, N: n}
}

// told tells a text, unless that is too much to read.
func told(s string) string {
	if len(s) > 60 {
		return fmt.Sprintf("%q.. of %d bytes", s[:60], len(s))
	}
	return fmt.Sprintf("%q", s)
}

func wantTokens(t *testing.T, s string, want ...Token) {
	t.Helper()
	got, f := Scan(s)
	if f != (api.Fault{}) {
		t.Errorf("Scan(%s): the fault %v, want none", told(s), f)
		return
	}
	if !slices.Equal(got, want) {
		t.Errorf("Scan(%s) = %v, want %v", told(s), got, want)
	}
}

func wantFault(t *testing.T, s string, code, at int) {
	t.Helper()
	l, f := Scan(s)
	if want := (api.Fault{Code: code, At: at}); f != want {
		t.Errorf("Scan(%s): the fault %v, want %v", told(s), f, want)
	}
	if len(l) != 0 {
		t.Errorf("Scan(%s): %d tokens with the fault %v", told(s), len(l), f)
	}
}

func TestScanTokensOfEverySort(t *testing.T) {
	wantTokens(t, "(", sign(0, "("))
	wantTokens(t, ")", sign(0, ")"))
	wantTokens(t, "a", sign(0, "a"))
	wantTokens(t, "z", sign(0, "z"))
	wantTokens(t, "abcdefghijklmnopqrstuvwxyz", sign(0, "abcdefghijklmnopqrstuvwxyz"))
	wantTokens(t, "7", num(0, 7))
	wantTokens(t, "-7", num(0, -7))
	wantTokens(t, "fun (read (narrow 1 (arg)))",
		sign(0, "fun"), sign(4, "("), sign(5, "read"), sign(10, "("), sign(11, "narrow"), num(18, 1),
		sign(20, "("), sign(21, "arg"), sign(24, ")"), sign(25, ")"), sign(26, ")"))
	wantTokens(t, "(bin add\n\t(num -12)\r\n\t(num 305))",
		sign(0, "("), sign(1, "bin"), sign(5, "add"), sign(10, "("), sign(11, "num"), num(15, -12), sign(18, ")"),
		sign(22, "("), sign(23, "num"), num(27, 305), sign(30, ")"), sign(31, ")"))
}

// Nothing is asked of how tokens go on one another: that is for those who read them.
func TestScanAnyOrder(t *testing.T) {
	wantTokens(t, ")(", sign(0, ")"), sign(1, "("))
	wantTokens(t, "nosuchword of 1000 ) 1", sign(0, "nosuchword"), sign(11, "of"), num(14, 1000), sign(19, ")"), num(21, 1))
	wantTokens(t, "1 1 a a", num(0, 1), num(2, 1), sign(4, "a"), sign(6, "a"))
}

func TestScanTokensThatTouch(t *testing.T) {
	wantTokens(t, "((()))", sign(0, "("), sign(1, "("), sign(2, "("), sign(3, ")"), sign(4, ")"), sign(5, ")"))
	wantTokens(t, "()()", sign(0, "("), sign(1, ")"), sign(2, "("), sign(3, ")"))
	wantTokens(t, "a(b)c", sign(0, "a"), sign(1, "("), sign(2, "b"), sign(3, ")"), sign(4, "c"))
	wantTokens(t, "12(3)-4", num(0, 12), sign(2, "("), num(3, 3), sign(4, ")"), num(5, -4))
	wantTokens(t, "12ab", num(0, 12), sign(2, "ab"))
	wantTokens(t, "ab12", sign(0, "ab"), num(2, 12))
	wantTokens(t, "0x", num(0, 0), sign(1, "x"))
	wantTokens(t, "1e5", num(0, 1), sign(1, "e"), num(2, 5))
	wantTokens(t, "a0b0", sign(0, "a"), num(1, 0), sign(2, "b"), num(3, 0))
	wantTokens(t, "-3x-4", num(0, -3), sign(2, "x"), num(3, -4))
	wantTokens(t, "1-2-3", num(0, 1), num(1, -2), num(3, -3))
	wantTokens(t, "0-1", num(0, 0), num(1, -1))
	wantTokens(t, "let-5", sign(0, "let"), num(3, -5))
}

func TestScanBlanks(t *testing.T) {
	wantTokens(t, "")
	for i := range blanks {
		b := blanks[i : i+1]
		wantTokens(t, b)
		wantTokens(t, strings.Repeat(b, 9))
		wantTokens(t, strings.Repeat(b, api.MaxText))
		wantTokens(t, b+"a"+b+"b"+b, sign(1, "a"), sign(3, "b"))
		wantTokens(t, "a"+b+b+b+"b", sign(0, "a"), sign(4, "b"))
		wantTokens(t, "1"+b+"2", num(0, 1), num(2, 2))
		wantTokens(t, "0"+b+"5", num(0, 0), num(2, 5))
		wantTokens(t, "("+b+")"+b, sign(0, "("), sign(2, ")"))
		wantTokens(t, b+b+"-1"+b+"-1", num(2, -1), num(5, -1))
		wantFault(t, b+b+"-"+b+"1", api.ErrText, 2)
		for j := range blanks {
			wantTokens(t, "x"+b+blanks[j:j+1]+"y", sign(0, "x"), sign(3, "y"))
		}
	}
	wantTokens(t, blanks)
	wantTokens(t, blanks+"a"+blanks+blanks+"5"+blanks, sign(4, "a"), num(13, 5))
}

func TestScanNumbers(t *testing.T) {
	for n := int64(-1100); n <= 1100; n++ {
		wantTokens(t, num(0, n).Text, num(0, n))
	}
	for _, n := range []int64{
		math.MaxInt64, math.MaxInt64 - 1, math.MinInt64, math.MinInt64 + 1, -math.MaxInt64,
		math.MaxInt32, math.MaxInt32 + 1, math.MinInt32, math.MinInt32 - 1, 1 << 53, 1<<53 + 1, -1<<53 - 1,
		1000000000000000000, -1000000000000000000, 9000000000000000000, 999999999999999999,
	} {
		text := num(0, n).Text
		wantTokens(t, text, num(0, n))
		wantTokens(t, "(num "+text+")", sign(0, "("), sign(1, "num"), num(5, n), sign(5+len(text), ")"))
	}
	wantTokens(t, "9223372036854775807", num(0, math.MaxInt64))
	wantTokens(t, "-9223372036854775808", num(0, math.MinInt64))
}

// wantNoNumber looks for the fault where something begins that is no number, whatever stands around it.
func wantNoNumber(t *testing.T, s string) {
	t.Helper()
	for _, ahead := range []string{"", " ", "\n\t", "(", ")", "a", "num ", "5 ", "-5 ", "(num 0)"} {
		for _, behind := range []string{"", " ", " 1", "(", ")", "a", "A", "\x00", "-", " 05"} {
			wantFault(t, ahead+s+behind, api.ErrText, len(ahead))
		}
	}
}

func TestScanNumbersOfMoreBits(t *testing.T) {
	for _, s := range []string{
		"9223372036854775808", "-9223372036854775809", "9223372036854775809", "9223372036854775810", "-9223372036854775810",
		"18446744073709551615", "18446744073709551616", "18446744073709551617", "-18446744073709551615", "-18446744073709551616",
		"10000000000000000000", "-10000000000000000000", "92233720368547758070", "-92233720368547758080",
		"340282366920938463463374607431768211456", "340282366920938463463374607431768211457",
	} {
		wantNoNumber(t, s)
	}
	wantFault(t, strings.Repeat("9", api.MaxText), api.ErrText, 0)
	wantFault(t, "-"+strings.Repeat("1", api.MaxText-1), api.ErrText, 0)
	wantFault(t, "a "+strings.Repeat("8", api.MaxText-2), api.ErrText, 2)
}

func TestScanNumbersThatAreNotShort(t *testing.T) {
	for _, s := range []string{
		"00", "05", "01", "007", "000", "010", "-0", "-00", "-05", "-01", "-007", "-010",
		"09223372036854775807", "-09223372036854775808", "00000000000000000000000000000001",
	} {
		wantNoNumber(t, s)
	}
	wantFault(t, strings.Repeat("0", api.MaxText), api.ErrText, 0)
	wantFault(t, strings.Repeat("0", api.MaxText-1)+"1", api.ErrText, 0)
	wantFault(t, "5 0-0", api.ErrText, 3)
}

func TestScanSignWithoutDigits(t *testing.T) {
	for _, s := range []string{"-", "--", "---", "--5", "-a", "-abc", "-(", "-)", "- 5", "-\t5", "-A", "-+5", "-\x005", "-\xff"} {
		wantFault(t, s, api.ErrText, 0)
		wantFault(t, "(a 1 "+s, api.ErrText, 5)
	}
	wantFault(t, "5-", api.ErrText, 1)
	wantFault(t, "5--5", api.ErrText, 1)
	wantFault(t, "-5-", api.ErrText, 2)
	wantFault(t, "a-b", api.ErrText, 1)
	wantFault(t, "-1 -", api.ErrText, 3)
}

// beginsNone tells whether no token begins with a byte, and it is no blank.
func beginsNone(c byte) bool {
	return !strings.ContainsRune(blanks+"()-0123456789abcdefghijklmnopqrstuvwxyz", rune(c))
}

func TestScanBytesThatBeginNone(t *testing.T) {
	none := 0
	for i := range 256 {
		if !beginsNone(byte(i)) {
			continue
		}
		none++
		c := string([]byte{byte(i)})
		wantFault(t, c, api.ErrText, 0)
		wantFault(t, c+"a", api.ErrText, 0)
		wantFault(t, c+" (", api.ErrText, 0)
		wantFault(t, c+c, api.ErrText, 0)
		wantFault(t, " "+c, api.ErrText, 1)
		wantFault(t, "ab"+c+"cd", api.ErrText, 2)
		wantFault(t, "12"+c+"34", api.ErrText, 2)
		wantFault(t, "(num "+c+"5)", api.ErrText, 5)
		wantFault(t, "(arg)"+c, api.ErrText, 5)
		wantFault(t, "a 5 "+c, api.ErrText, 4)
		wantFault(t, strings.Repeat(" ", api.MaxText-1)+c, api.ErrText, api.MaxText-1)
		wantFault(t, strings.Repeat("a", api.MaxText-1)+c, api.ErrText, api.MaxText-1)
	}
	if want := 256 - 4 - 2 - 1 - 10 - 26; none != want {
		t.Errorf("%d bytes begin none, want %d", none, want)
	}
}

// Texts are bytes: neither letters nor digits nor blanks are those of other signs.
func TestScanTextsAreBytes(t *testing.T) {
	for _, s := range []string{"é", "ß", "а", "ａ", "٣", "５", "−5", "\u00a0", "\u0085", "\u2028", "\ufeff", "（", "\xc3", "\xa9", "\xff\xfe"} {
		wantFault(t, s, api.ErrText, 0)
		wantFault(t, "a "+s+" b", api.ErrText, 2)
		wantFault(t, "na"+s+"ve", api.ErrText, 2)
		wantFault(t, "1"+s, api.ErrText, 1)
	}
	wantFault(t, "\v", api.ErrText, 0)
	wantFault(t, "a\fb", api.ErrText, 1)
}

func TestScanFirstFault(t *testing.T) {
	wantFault(t, "a A 05", api.ErrText, 2)
	wantFault(t, "a 05 A", api.ErrText, 2)
	wantFault(t, "- A", api.ErrText, 0)
	wantFault(t, "5 -- 9223372036854775808", api.ErrText, 2)
	wantFault(t, "9223372036854775808 --", api.ErrText, 0)
	wantFault(t, "aB_c", api.ErrText, 1)
}

func TestScanMaxText(t *testing.T) {
	word := strings.Repeat("q", api.MaxText)
	wantTokens(t, word, sign(0, word))
	wantTokens(t, word[1:], sign(0, word[1:]))
	wantTokens(t, strings.Repeat(" ", api.MaxText-1)+"5", num(api.MaxText-1, 5))
	var brackets, ones []Token
	for i := range api.MaxText {
		brackets = append(brackets, sign(i, "("))
		if i%2 == 0 {
			ones = append(ones, num(i, -1))
		}
	}
	wantTokens(t, strings.Repeat("(", api.MaxText), brackets...)
	wantTokens(t, strings.Repeat("-1", api.MaxText/2), ones...)
}

func TestScanMoreThanMaxText(t *testing.T) {
	for _, more := range []int{1, 2, 100, api.MaxText, 1 << 20} {
		for _, s := range []string{" ", "\n", "a", "(", ")", "1", "0", "-", "A", "_", "\x00", "\xff"} {
			wantFault(t, strings.Repeat(s, api.MaxText+more), api.ErrMany, api.MaxText)
			wantFault(t, s+strings.Repeat(" ", api.MaxText+more-1), api.ErrMany, api.MaxText)
			wantFault(t, strings.Repeat(" ", api.MaxText+more-1)+s, api.ErrMany, api.MaxText)
			wantFault(t, strings.Repeat("(", 300)+s+strings.Repeat("a", api.MaxText+more-301), api.ErrMany, api.MaxText)
		}
	}
}

var (
	blankForm = regexp.MustCompile(`^[\x20\x09\x0a\x0d]*`)
	tokenForm = regexp.MustCompile(`^(?:\(|\)|[a-z]+|[0-9-][0-9]*)`)
	shortForm = regexp.MustCompile(`^(?:0|-?[1-9][0-9]*)$`)
	least     = big.NewInt(math.MinInt64)
	greatest  = big.NewInt(math.MaxInt64)
)

// byForms tells what Scan is to tell of a text of at most MaxText bytes, in another way.
func byForms(s string) ([]Token, api.Fault) {
	var l []Token
	at := len(blankForm.FindString(s))
	for at < len(s) {
		text := tokenForm.FindString(s[at:])
		t := sign(at, text)
		bad := text == ""
		if !bad && strings.Contains("-0123456789", text[:1]) {
			n, ok := new(big.Int).SetString(text, 10)
			bad = !ok || !shortForm.MatchString(text) || n.Cmp(least) < 0 || n.Cmp(greatest) > 0
			if !bad {
				t.Num, t.N = true, n.Int64()
			}
		}
		if bad {
			return nil, api.Fault{Code: api.ErrText, At: at}
		}
		l = append(l, t)
		at += len(text)
		at += len(blankForm.FindString(s[at:]))
	}
	return l, api.Fault{}
}

func wantByForms(t *testing.T, s string) {
	t.Helper()
	if l, f := byForms(s); f != (api.Fault{}) {
		wantFault(t, s, f.Code, f.At)
	} else {
		wantTokens(t, s, l...)
	}
}

// allTexts goes through all texts of at most so many of those bytes.
func allTexts(of string, most int, look func(string)) {
	look("")
	if most == 0 {
		return
	}
	allTexts(of, most-1, func(s string) {
		for i := range len(of) {
			look(of[i:i+1] + s)
		}
	})
}

func TestScanAllShortTexts(t *testing.T) {
	var all []byte
	for i := range 256 {
		all = append(all, byte(i))
	}
	allTexts(string(all), 2, func(s string) { wantByForms(t, s) })
	allTexts("(az059- \nA", 5, func(s string) { wantByForms(t, s) })
}

func TestScanRandomTexts(t *testing.T) {
	r := rand.New(rand.NewSource(6))
	pieces := []string{
		"(", ")", "a", "z", "fun", "num", "0", "1", "9", "10", "999", "-1", "-20", "9223372036854775807", "-9223372036854775808",
		" ", "\t", "\n", "\r", " ", " ", "  \r\n",
	}
	spoilt := []string{"-", "-0", "05", "9223372036854775808", "-9223372036854775809", "A", "_", "\x00", "\x7f", "\x80", "\xff", "+", "é"}
	for range 20000 {
		var b strings.Builder
		for range r.Intn(60) {
			if r.Intn(60) == 0 {
				b.WriteString(spoilt[r.Intn(len(spoilt))])
			} else {
				b.WriteString(pieces[r.Intn(len(pieces))])
			}
		}
		wantByForms(t, b.String())
	}
}

func FuzzScan(f *testing.F) {
	for _, s := range []string{"", "(num -5)\tabc 0", " 05", "-", "a A", "9223372036854775808"} {
		f.Add(s)
	}
	f.Fuzz(func(t *testing.T, s string) {
		if len(s) > api.MaxText {
			wantFault(t, s, api.ErrMany, api.MaxText)
		} else {
			wantByForms(t, s)
		}
	})
}

func TestScanTellsTheSameAgain(t *testing.T) {
	s := "(num -5) abc 0"
	first, _ := Scan(s)
	first[0], first[2].Text = Token{}, "x"
	wantFault(t, s+" -", api.ErrText, len(s)+1)
	want, _ := byForms(s)
	wantTokens(t, s, want...)
}

// What is answered is new memory: no token's text is a piece of what was handed in.
func TestScanNewMemory(t *testing.T) {
	s := strings.Clone("(num -5)(abc 0 123 ()) abc")
	l, _ := Scan(s)
	begin := uintptr(unsafe.Pointer(unsafe.StringData(s)))
	for _, token := range l {
		p := uintptr(unsafe.Pointer(unsafe.StringData(token.Text)))
		if p >= begin && p < begin+uintptr(len(s)) {
			t.Errorf("the text of %v is a piece of what was handed in", token)
		}
	}
}
