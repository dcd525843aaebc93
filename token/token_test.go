package token

import (
	"slices"
	"strconv"
	"strings"
	"testing"
	"unsafe"

	"barbican/api"
)

// The kinds as numbers, so that no constant stands between the document and them.
func w(s string) api.Token { return api.Token{Kind: 1, Text: s} }
func d(s string) api.Token { return api.Token{Kind: 2, Text: s} }
func g(s string) api.Token { return api.Token{Kind: 3, Text: s} }

// allSigns as the document tells them.
var allSigns = strings.Fields("<< >> == { } ( ) [ ] , ; . = + - * & | ^ <")

func cutInto(t *testing.T, s string, want ...api.Token) {
	t.Helper()
	if got, e := Cut(s); e != 0 || !slices.Equal(got, want) {
		t.Errorf("Cut(%.80q) = %v, %d; want %v, 0", s, got, int(e), want)
	}
}

func refused(t *testing.T, s string, want api.Errno) {
	t.Helper()
	if got, e := Cut(s); e != want || len(got) != 0 {
		t.Errorf("Cut(%.80q) = %v, %d; want [], %d", s, got, int(e), int(want))
	}
}

// P5.1
func TestWord(t *testing.T) {
	for _, s := range []string{"a", "z", "m", "a0", "z9", "ab1", "abcdefgh", "a1234567", "zzzzzzzz", "x0y1z2", "unit", "if", "else", "while"} {
		if !Word(s) {
			t.Errorf("Word(%q) = false", s)
		}
	}
}

// P5.1
func TestWordRefuses(t *testing.T) {
	for _, s := range []string{
		"", "0", "9", "0a", "1a2", "12345678", "abcdefghi", "a12345678", "aaaaaaaaaaaaaaaa",
		"A", "aB", "Z", "a_", "_a", "a-b", " a", "a ", "a b", "a\n", "\na", "a\x00", "\x00", "\x00a", "a\t",
		"é", "aé", "ａ", "a٣", "a\xff", "\x61\xcc\x81", "+", "<<", "a.b", "a!",
	} {
		if Word(s) {
			t.Errorf("Word(%q) = true", s)
		}
	}
}

// P5.1: every byte as the only one, as the first one, in the middle and as the last one, of short words and of the longest.
func TestWordAtEachByte(t *testing.T) {
	for n := range 256 {
		b := string([]byte{byte(n)})
		small, number := n >= 97 && n <= 122, n >= 48 && n <= 57
		for _, c := range []struct {
			s    string
			want bool
		}{
			{b, small}, {b + "a", small}, {b + "bcdefgh", small}, {"a" + b, small || number},
			{"a" + b + "c", small || number}, {"abcd" + b + "fgh", small || number}, {"abcdefg" + b, small || number}, {"abcdefgh" + b, false},
		} {
			if Word(c.s) != c.want {
				t.Errorf("Word(%q) = %v", c.s, !c.want)
			}
		}
	}
}

// P5.1
func TestWordAtEachLength(t *testing.T) {
	for n := range 5000 {
		if got, want := Word(strings.Repeat("a", n)), n >= 1 && n <= 8; got != want {
			t.Errorf("Word of %d bytes = %v", n, got)
		}
	}
}

// P5.1: all words of sixteen bits, and what lies behind them.
func TestNumberOverAllWords(t *testing.T) {
	for n := range 200000 {
		want, ok := n, true
		if n > 65535 {
			want, ok = 0, false
		}
		numbered(t, strconv.Itoa(n), want, ok)
		numbered(t, "0"+strconv.Itoa(n), 0, false)
		numbered(t, "-"+strconv.Itoa(n), 0, false)
	}
}

func numbered(t *testing.T, s string, want int, wantOK bool) {
	t.Helper()
	if got, ok := Number(s); got != want || ok != wantOK {
		t.Errorf("Number(%.80q) = %d, %v; want %d, %v", s, got, ok, want, wantOK)
	}
}

// P5.1
func TestNumberRefuses(t *testing.T) {
	for _, s := range []string{
		"", "00", "01", "07", "000", "00001", "065535", "000000", "65536", "65537", "65545", "99999", "100000", "655350", "655360",
		"+1", "-0", "-1", "+0", " 1", "1 ", "1\n", "\n1", "1_0", "0x1", "0b1", "0o7", "1e1", "1.", ".1", "1.0", "1a", "a1", "a", "x", "\x00", "1\x00", "\x001",
		"٣", "1٣", "１", "1\xff", "/", ":", "1/", "1:",
	} {
		numbered(t, s, 0, false)
	}
}

// P5.1: numbers that would be words again if they left the 32 or the 64 bits.
func TestNumberThatWouldWrapRound(t *testing.T) {
	for _, s := range []string{
		"4294967296", "4294967297", "9223372036854775807", "9223372036854775808", "18446744073709551615", "18446744073709551616", "18446744073709551617",
		"18446744073709617151", "36893488147419103233", "340282366920938463463374607431768211457",
	} {
		numbered(t, s, 0, false)
	}
	for n := 6; n < 400; n++ {
		numbered(t, strings.Repeat("0", n), 0, false)
		numbered(t, strings.Repeat("9", n), 0, false)
		numbered(t, "1"+strings.Repeat("0", n-1), 0, false)
	}
	numbered(t, strings.Repeat("1", 1<<24), 0, false)
	numbered(t, strings.Repeat("0", 1<<24), 0, false)
}

// P5.1: every byte behind, ahead of and between digits.
func TestNumberAtEachByte(t *testing.T) {
	for n := range 256 {
		b := string([]byte{byte(n)})
		if n >= 48 && n <= 57 {
			numbered(t, b, n-48, true)
			numbered(t, "1"+b, 10+n-48, true)
			numbered(t, "1"+b+"2", 102+10*(n-48), true)
			continue
		}
		for _, s := range []string{b, "1" + b, b + "1", "1" + b + "2", "0" + b, b + "0"} {
			numbered(t, s, 0, false)
		}
	}
}

// P5.1: a sign is one of these, and no other pair of bytes.
func TestSigns(t *testing.T) {
	if len(allSigns) != 20 {
		t.Fatalf("%d signs", len(allSigns))
	}
	for _, s := range allSigns {
		cutInto(t, s, g(s))
		cutInto(t, "a"+s+"1", w("a"), g(s), d("1"))
		cutInto(t, "1"+s+"a", d("1"), g(s), w("a"))
	}
	for n := range 256 {
		b := string([]byte{byte(n)})
		if strings.Contains("abcdefghijklmnopqrstuvwxyz0123456789 \n", b) || slices.Contains(allSigns, b) {
			continue
		}
		refused(t, b, 4)
		refused(t, b+"a", 4)
		refused(t, "x = 1;"+b, 4)
		refused(t, "x "+b+" y", 4)
	}
}

// P5.1: the signs, and whatever ranges over them may stop at any of them.
func TestSignsMayBeLeft(t *testing.T) {
	for stop := 1; stop <= len(allSigns); stop++ {
		var got []string
		for s := range signs {
			if got = append(got, s); len(got) == stop {
				break
			}
		}
		if !slices.Equal(got, allSigns[:stop]) {
			t.Errorf("signs up to %d: %v", stop, got)
		}
	}
}

// P5.2
func TestCut(t *testing.T) {
	cutInto(t, "")
	cutInto(t, " ")
	cutInto(t, "\n \n\n  ")
	cutInto(t, "x=<<1", w("x"), g("="), g("<<"), d("1"))
	cutInto(t, "ab1 12 0", w("ab1"), d("12"), d("0"))
	cutInto(t, "\n a\nb \n", w("a"), w("b"))
	cutInto(t, "a1b2.c3(65535,x)", w("a1b2"), g("."), w("c3"), g("("), d("65535"), g(","), w("x"), g(")"))
	cutInto(t, "unit one var x open f(p) { x = (x + p); return x; }",
		w("unit"), w("one"), w("var"), w("x"), w("open"), w("f"), g("("), w("p"), g(")"), g("{"),
		w("x"), g("="), g("("), w("x"), g("+"), w("p"), g(")"), g(";"), w("return"), w("x"), g(";"), g("}"))
	cutInto(t, "abcdefgh\nabcdefg 1", w("abcdefgh"), w("abcdefg"), d("1"))
	cutInto(t, "0 0", d("0"), d("0"))
}

// P5.2: the longest sign, from the front on.
func TestCutTakesTheLongestSign(t *testing.T) {
	cutInto(t, "<", g("<"))
	cutInto(t, "<<<", g("<<"), g("<"))
	cutInto(t, "<<<<", g("<<"), g("<<"))
	cutInto(t, "< <", g("<"), g("<"))
	cutInto(t, "<\n<<", g("<"), g("<<"))
	cutInto(t, "===", g("=="), g("="))
	cutInto(t, "= ==", g("="), g("=="))
	cutInto(t, "====", g("=="), g("=="))
	cutInto(t, "<=", g("<"), g("="))
	cutInto(t, "<==", g("<"), g("=="))
	cutInto(t, "=<<=", g("="), g("<<"), g("="))
	cutInto(t, ">>>>", g(">>"), g(">>"))
	cutInto(t, "<<>>", g("<<"), g(">>"))
	cutInto(t, "++--", g("+"), g("+"), g("-"), g("-"))
	cutInto(t, "(())[]{}", g("("), g("("), g(")"), g(")"), g("["), g("]"), g("{"), g("}"))
	cutInto(t, "-1", g("-"), d("1"))
	cutInto(t, "1.5", d("1"), g("."), d("5"))
	cutInto(t, "&&||", g("&"), g("&"), g("|"), g("|"))
}

// P5.2
func TestCutRefusesForms(t *testing.T) {
	for _, s := range []string{
		"a!", "!", ">", "> >", ">>>", ">=", "a > b", "<>", "1a", "0a", "12ab", "07", "00", "x = 007;", "65536", "99999999999999999999", "18446744073709551617",
		"abcdefghi", "a12345678", "x = abcdefghi;", "A", "aB", "a\tb", "\t", "a\rb", "\r\n", "\v", "\f", "a\x00", "\x00", "\x00\x00a",
		"a_b", "_", "$", "a # b", "\"a\"", "'", "a?b:c", "%", "~", "@", "/", "\\", "`", "é", "xé", "１", "\u00a0", "\u2028", "\xff", "a\xc2",
	} {
		refused(t, s, 4)
		refused(t, "x = (x + 1); "+s, 4)
		refused(t, s+" ; y = 2;", 4)
	}
}

// P5.2: letters and digits side by side are one token, or none: they are not cut further.
func TestCutTakesAllLettersAndDigits(t *testing.T) {
	for n := 1; n < 40; n++ {
		letters, ones, zeros := strings.Repeat("a", n), strings.Repeat("1", n), strings.Repeat("0", n)
		if n <= 8 {
			cutInto(t, letters, w(letters))
		} else {
			refused(t, letters, 4)
		}
		if n <= 5 {
			cutInto(t, ones+";", d(ones), g(";"))
		} else {
			refused(t, ones+";", 4)
		}
		if n == 1 {
			cutInto(t, zeros, d("0"))
		} else {
			refused(t, zeros, 4)
		}
		refused(t, ones+letters, 4)
	}
}

// P5.2
func TestCutAtMaxSource(t *testing.T) {
	cutInto(t, strings.Repeat(" ", 3000))
	cutInto(t, strings.Repeat("\n", 3000))
	cutInto(t, strings.Repeat(" ", 2999)+"a", w("a"))
	cutInto(t, "a"+strings.Repeat("\n", 2999), w("a"))
	cutInto(t, strings.Repeat(";", 3000), slices.Repeat([]api.Token{g(";")}, 3000)...)
	cutInto(t, strings.Repeat("a ", 1500), slices.Repeat([]api.Token{w("a")}, 1500)...)
	cutInto(t, strings.Repeat("<", 3000), slices.Repeat([]api.Token{g("<<")}, 1500)...)
	refused(t, strings.Repeat("!", 3000), 4)
	refused(t, strings.Repeat(";", 2999)+"!", 4)
	refused(t, strings.Repeat("a", 3000), 4)
	refused(t, strings.Repeat("1", 3000), 4)
	refused(t, strings.Repeat("0", 3000), 4)
	for _, n := range []int{3001, 3002, 4096, 65536, 1 << 24} {
		for _, s := range []string{" ", "\n", ";", "a", "1"} {
			refused(t, strings.Repeat(s, n), 1)
		}
	}
	refused(t, strings.Repeat(" ", 3000)+"a", 1)
}

// P5.2: the error that is named first is the one that is told.
func TestCutRefusesSizesAheadOfForms(t *testing.T) {
	for _, s := range []string{"!", "A", "\x00", "é", "é!"} {
		refused(t, strings.Repeat(s, 3001), 1)
		refused(t, s+strings.Repeat(" ", 3000), 1)
	}
}

// P5.2: lists of answers are new memory, and so are texts: nothing of the source is kept.
func TestCutAnswersNewMemory(t *testing.T) {
	b := []byte("unit one var x open f(p) { x = (x << 12); return x; }")
	s := string(b)
	first, _ := Cut(s)
	again, _ := Cut(s)
	from := uintptr(unsafe.Pointer(unsafe.StringData(s)))
	for _, k := range first {
		if at := uintptr(unsafe.Pointer(unsafe.StringData(k.Text))); at >= from && at < from+uintptr(len(s)) {
			t.Errorf("%v lies in the source", k)
		}
	}
	spare := first[:cap(first)]
	for i := range spare {
		spare[i] = api.Token{Kind: 9, Text: "changed"}
	}
	if third, _ := Cut(s); !slices.Equal(again, third) || len(again) != 22 || s != string(b) {
		t.Errorf("a changed answer changes another one: %v", again)
	}
}
