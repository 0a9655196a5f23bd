package lex_test

import (
	"regexp"
	"slices"
	"strconv"
	"strings"
	"testing"
	"unsafe"

	"lariat/api"
	"lariat/lex"
)

// The document's letters, signs and blanks, as they are written there.
const (
	letters = "XFGUR"
	signs   = "( ) [ ] + - * < <= > >= == != && || ! @ -> ; ="
	blanks  = " \t\n"
)

// The tokens of the document, said a second time as patterns that match the longest.
var (
	numbers = longest(`[0-9]+`)
	words   = longest(`[a-z_][a-z0-9_]*`)
	others  = longest(`[XFGUR]|\(|\)|\[|\]|\+|-|\*|<|<=|>|>=|==|!=|&&|\|\||!|@|->|;|=`)
)

func longest(s string) *regexp.Regexp {
	r := regexp.MustCompile(`^(?:` + s + `)`)
	r.Longest()
	return r
}

// plainLex is what Lex shall answer, worked out by the patterns.
func plainLex(s string) ([]lex.Token, api.Errno, int) {
	if len(s) > api.MaxText {
		return nil, api.ErrLong, 0
	}
	var l []lex.Token
	for at := 0; at < len(s); {
		rest := s[at:]
		if strings.ContainsRune(blanks, rune(s[at])) {
			at++
			continue
		}
		t := lex.Token{At: at}
		if t.Text = numbers.FindString(rest); t.Text != "" && len(t.Text) <= 3 {
			t.Kind = lex.Number
			t.N, _ = strconv.Atoi(t.Text)
		} else if t.Text = words.FindString(rest); t.Text != "" && len(t.Text) <= 8 {
			t.Kind = lex.Word
		} else if t.Text = others.FindString(rest); t.Text != "" && strings.Contains(letters, t.Text) {
			t.Kind = lex.Letter
		} else if t.Text != "" {
			t.Kind = lex.Sign
		} else {
			return nil, api.ErrForm, at
		}
		l = append(l, t)
		at += len(t.Text)
	}
	return append(l, lex.Token{Kind: lex.End, At: len(s)}), api.OK, 0
}

// asks holds what Lex and IsWord answer to s against the patterns, and tells if they are the same.
func asks(t *testing.T, s string) bool {
	t.Helper()
	l, e, at := lex.Lex(s)
	wantL, wantE, wantAt := plainLex(s)
	if !slices.Equal(l, wantL) || e != wantE || at != wantAt {
		t.Errorf("Lex(%.40q): %v, %d, %d, not %v, %d, %d", s, l, e, at, wantL, wantE, wantAt)
		return false
	}
	isWord := len(wantL) == 2 && wantL[0].Kind == lex.Word && wantL[0].Text == s
	if lex.IsWord(s) != isWord {
		t.Errorf("IsWord(%.40q): %v", s, !isWord)
		return false
	}
	return true
}

// gives asks that the tokens of s are these, but for End, which is added.
func gives(t *testing.T, s string, want ...lex.Token) {
	t.Helper()
	want = append(want, lex.Token{Kind: lex.End, At: len(s)})
	if l, e, at := lex.Lex(s); !slices.Equal(l, want) || e != api.OK || at != 0 {
		t.Errorf("Lex(%.40q): %v, %d, %d, not %v", s, l, e, at, want)
	}
}

// refuses asks that s is an error, and where, and that there are no tokens beside it.
func refuses(t *testing.T, s string, want api.Errno, where int) {
	t.Helper()
	if l, e, at := lex.Lex(s); len(l) != 0 || e != want || at != where {
		t.Errorf("Lex(%.40q): %d tokens, %d, %d, not %d, %d", s, len(l), e, at, want, where)
	}
}

func number(text string, n, at int) lex.Token {
	return lex.Token{Kind: lex.Number, Text: text, N: n, At: at}
}

func word(text string, at int) lex.Token {
	return lex.Token{Kind: lex.Word, Text: text, At: at}
}

func letter(text string, at int) lex.Token {
	return lex.Token{Kind: lex.Letter, Text: text, At: at}
}

func sign(text string, at int) lex.Token {
	return lex.Token{Kind: lex.Sign, Text: text, At: at}
}

// The chapter's example.
func TestExample(t *testing.T) {
	gives(t, "x<=10", word("x", 0), sign("<=", 1), number("10", 10, 3))
}

func TestKindsAreNumberedFromOneOn(t *testing.T) {
	if lex.Number != 1 || lex.Word != 2 || lex.Letter != 3 || lex.Sign != 4 || lex.End != 5 {
		t.Error(lex.Number, lex.Word, lex.Letter, lex.Sign, lex.End)
	}
}

func TestBlanksAreNothing(t *testing.T) {
	for _, s := range []string{"", " ", "\t", "\n", " \t\n", "\n\n\t  ", strings.Repeat(" ", api.MaxText)} {
		gives(t, s)
	}
	gives(t, " \t\na\n\n1\t ", word("a", 3), number("1", 1, 6))
	gives(t, "x <\t= 1\n0", word("x", 0), sign("<", 2), sign("=", 4), number("1", 1, 6), number("0", 0, 8))
}

func TestEveryByteAlone(t *testing.T) {
	for c := range 256 {
		asks(t, string([]byte{byte(c)}))
	}
}

func TestOtherBytesAreNoBlanks(t *testing.T) {
	for c := range 256 {
		if c > ' ' && c <= '~' || strings.ContainsRune(blanks, rune(c)) {
			continue
		}
		b := string([]byte{byte(c)})
		refuses(t, b, api.ErrForm, 0)
		refuses(t, " "+b, api.ErrForm, 1)
		refuses(t, "ab"+b+" ", api.ErrForm, 2)
		refuses(t, "12 "+b+"#", api.ErrForm, 3)
	}
	for _, s := range []string{"\u00a0", "\u0085", "\u2003", "\ufeff", "é", "Ⅹ", "１", "ａ", "−", "≤"} {
		refuses(t, s, api.ErrForm, 0)
		refuses(t, "x "+s, api.ErrForm, 2)
	}
}

func TestVisibleBytesThatBeginNoToken(t *testing.T) {
	for _, c := range "\"#$%',./:?\\^`{}~" {
		refuses(t, string(c), api.ErrForm, 0)
		refuses(t, "a"+string(c), api.ErrForm, 1)
		refuses(t, "1 + "+string(c)+" 2", api.ErrForm, 4)
	}
}

func TestTextsAsLongAsMayBe(t *testing.T) {
	for _, s := range []string{"+", " ", "a ", "123+", "X", "aaaaaaaa ", "&&"} {
		most := strings.Repeat(s, api.MaxText/len(s))
		if len(most) != api.MaxText {
			most += strings.Repeat(" ", api.MaxText-len(most))
		}
		asks(t, most)
		if l, e, _ := lex.Lex(most); e != api.OK || l[len(l)-1] != (lex.Token{Kind: lex.End, At: api.MaxText}) {
			t.Errorf("%q, as long as may be: %d tokens, %d", s, len(l), e)
		}
		refuses(t, most+" ", api.ErrLong, 0)
	}
	refuses(t, strings.Repeat("+", api.MaxText-1)+"#", api.ErrForm, api.MaxText-1)
	refuses(t, strings.Repeat("1", api.MaxText), api.ErrForm, 0)
	refuses(t, strings.Repeat("_", api.MaxText), api.ErrForm, 0)
}

func TestTooLongComesAheadOfForm(t *testing.T) {
	for _, s := range []string{"#", "A", "&", "1", "a", "\x00", "é"} {
		refuses(t, strings.Repeat(s, api.MaxText+1), api.ErrLong, 0)
	}
	refuses(t, "#"+strings.Repeat(" ", api.MaxText), api.ErrLong, 0)
	refuses(t, strings.Repeat(" ", api.MaxText)+"#", api.ErrLong, 0)
	refuses(t, strings.Repeat(" ", 20*api.MaxText), api.ErrLong, 0)
}

func TestEveryNumber(t *testing.T) {
	for n := range 1000 {
		s := strconv.Itoa(n)
		for ; len(s) <= 3; s = "0" + s {
			gives(t, s, number(s, n, 0))
			gives(t, " "+s+" ", number(s, n, 1))
		}
		refuses(t, s, api.ErrForm, 0)
	}
}

func TestNumbersOfTooManyDigits(t *testing.T) {
	for _, s := range []string{"1000", "0000", "0001", "9999", "12345", "000000000000", "99999999999999999999"} {
		refuses(t, s, api.ErrForm, 0)
		refuses(t, "a "+s+" b", api.ErrForm, 2)
		refuses(t, "("+s+")", api.ErrForm, 1)
		refuses(t, s+"a", api.ErrForm, 0)
		refuses(t, "X"+s, api.ErrForm, 1)
	}
	gives(t, "100 0", number("100", 100, 0), number("0", 0, 4))
}

func TestNumbersBesideOthers(t *testing.T) {
	gives(t, "12ab", number("12", 12, 0), word("ab", 2))
	gives(t, "999_", number("999", 999, 0), word("_", 3))
	gives(t, "1a1", number("1", 1, 0), word("a1", 1))
	gives(t, "a 1", word("a", 0), number("1", 1, 2))
	gives(t, "a-1", word("a", 0), sign("-", 1), number("1", 1, 2))
	gives(t, "-007-", sign("-", 0), number("007", 7, 1), sign("-", 4))
	gives(t, "1X2", number("1", 1, 0), letter("X", 1), number("2", 2, 2))
	gives(t, "1<2", number("1", 1, 0), sign("<", 1), number("2", 2, 2))
	gives(t, "1\n2", number("1", 1, 0), number("2", 2, 2))
	refuses(t, "1.5", api.ErrForm, 1)
	refuses(t, "1,000", api.ErrForm, 1)
	refuses(t, "0x1F00z#", api.ErrForm, 7)
}

// Each byte that a word may begin with, and go on with, at each place of one.
func TestWordsOfEachByte(t *testing.T) {
	const begins = "abcdefghijklmnopqrstuvwxyz_"
	for _, c := range begins {
		gives(t, string(c), word(string(c), 0))
	}
	for _, c := range begins + "0123456789" {
		for at := 1; at < api.MaxName; at++ {
			w := strings.Repeat("a", at) + string(c) + strings.Repeat("z", api.MaxName-at-1)
			gives(t, w, word(w, 0))
		}
	}
}

func TestWordsOfEachLength(t *testing.T) {
	for _, whole := range []string{"abcdefghijkl", "____________", "a00000000000", "_1_2_3_4_5_6", "z9z9z9z9z9z9"} {
		for n := 1; n <= len(whole); n++ {
			w := whole[:n]
			if n <= api.MaxName {
				gives(t, w, word(w, 0))
				gives(t, "1 "+w+"X", number("1", 1, 0), word(w, 2), letter("X", 2+n))
				continue
			}
			refuses(t, w, api.ErrForm, 0)
			refuses(t, "1 "+w+"X", api.ErrForm, 2)
			refuses(t, "1"+w, api.ErrForm, 1)
			refuses(t, "X"+w, api.ErrForm, 1)
		}
	}
}

func TestWordsBesideOthers(t *testing.T) {
	gives(t, "a_1 _ z9z9z9z9", word("a_1", 0), word("_", 4), word("z9z9z9z9", 6))
	gives(t, "Xa", letter("X", 0), word("a", 1))
	gives(t, "aX", word("a", 0), letter("X", 1))
	gives(t, "X_U_", letter("X", 0), word("_", 1), letter("U", 2), word("_", 3))
	gives(t, "abcdefghRabcdefgh", word("abcdefgh", 0), letter("R", 8), word("abcdefgh", 9))
	gives(t, "123abcdefgh", number("123", 123, 0), word("abcdefgh", 3))
	gives(t, "p@q", word("p", 0), sign("@", 1), word("q", 2))
	gives(t, "c!d;", word("c", 0), sign("!", 1), word("d", 2), sign(";", 3))
}

func TestCapitals(t *testing.T) {
	for c := 'A'; c <= 'Z'; c++ {
		s := string(c)
		if !strings.Contains(letters, s) {
			refuses(t, s, api.ErrForm, 0)
			refuses(t, "x"+s, api.ErrForm, 1)
			refuses(t, "1 "+s+"x", api.ErrForm, 2)
			refuses(t, "X"+s, api.ErrForm, 1)
			continue
		}
		gives(t, s, letter(s, 0))
		gives(t, s+s, letter(s, 0), letter(s, 1))
		gives(t, s+"1 "+s, letter(s, 0), number("1", 1, 1), letter(s, 3))
		gives(t, "(a"+s+"b)", sign("(", 0), word("a", 1), letter(s, 2), word("b", 3), sign(")", 4))
	}
	gives(t, letters, letter("X", 0), letter("F", 1), letter("G", 2), letter("U", 3), letter("R", 4))
}

func TestEachSign(t *testing.T) {
	at := 0
	var all []lex.Token
	for _, s := range strings.Fields(signs) {
		gives(t, s, sign(s, 0))
		gives(t, " "+s+"\n", sign(s, 1))
		gives(t, "a"+s+"1", word("a", 0), sign(s, 1), number("1", 1, 1+len(s)))
		all = append(all, sign(s, at))
		at += len(s) + 1
	}
	gives(t, signs, all...)
}

func TestLongestSignCounts(t *testing.T) {
	gives(t, "<==>=", sign("<=", 0), sign("=", 2), sign(">=", 3))
	gives(t, "===", sign("==", 0), sign("=", 2))
	gives(t, "====", sign("==", 0), sign("==", 2))
	gives(t, "!==", sign("!=", 0), sign("=", 2))
	gives(t, "!!=", sign("!", 0), sign("!=", 1))
	gives(t, "-->", sign("-", 0), sign("->", 1))
	gives(t, "->=", sign("->", 0), sign("=", 2))
	gives(t, "=<=", sign("=", 0), sign("<=", 1))
	gives(t, "<->", sign("<", 0), sign("->", 1))
	gives(t, "&&&&||", sign("&&", 0), sign("&&", 2), sign("||", 4))
	gives(t, "< =", sign("<", 0), sign("=", 2))
	gives(t, "- >", sign("-", 0), sign(">", 2))
}

func TestHalvesOfSigns(t *testing.T) {
	refuses(t, "&", api.ErrForm, 0)
	refuses(t, "|", api.ErrForm, 0)
	refuses(t, "a & b", api.ErrForm, 2)
	refuses(t, "a | b", api.ErrForm, 2)
	refuses(t, "& &", api.ErrForm, 0)
	refuses(t, "&&&", api.ErrForm, 2)
	refuses(t, "|||", api.ErrForm, 2)
	refuses(t, "&|", api.ErrForm, 0)
	refuses(t, "a&&b&", api.ErrForm, 4)
}

// Each one, two, three and four of the signs' bytes, one behind the other.
func TestSignsBytesBesideOneAnother(t *testing.T) {
	upTo(t, "()[]+-*<>=!&|@;", 4, "")
}

// Each text of up to five bytes of one of each sort.
func TestAllShortTexts(t *testing.T) {
	upTo(t, "a0_XA <=&\x80", 5, "")
}

// upTo asks all texts that begin with s and have at most n more bytes of these.
func upTo(t *testing.T, these string, n int, s string) bool {
	if !asks(t, s) {
		return false
	}
	if n == 0 {
		return true
	}
	for k := range len(these) {
		if !upTo(t, these, n-1, s+these[k:k+1]) {
			return false
		}
	}
	return true
}

// Long texts of mixed pieces; most of them go on to their end, some have a wrong byte somewhere.
func TestLongMixedTexts(t *testing.T) {
	pieces := append(strings.Fields(signs), " ", "\t", "\n", "X", "F", "G", "U", "R", "a", "_", "x1 ", "abcdefgh ", "0 ", "12 ", "999 ")
	wrong := []string{"#", "A", "& ", "1234", "abcdefghi", "\r", "\x00", "\xc3\xa9"}
	seed := uint32(1)
	next := func(n int) int {
		seed = seed*1664525 + 1013904223
		return int(seed>>8) % n
	}
	for range 2000 {
		var b strings.Builder
		for range next(200) {
			if next(300) == 0 {
				b.WriteString(wrong[next(len(wrong))])
			}
			b.WriteString(pieces[next(len(pieces))])
		}
		if !asks(t, b.String()) {
			return
		}
	}
}

func TestFirstErrorFromTheLeft(t *testing.T) {
	refuses(t, "# 1000", api.ErrForm, 0)
	refuses(t, "1000 #", api.ErrForm, 0)
	refuses(t, "a A 1000 &", api.ErrForm, 2)
	refuses(t, "abcdefghi # A", api.ErrForm, 0)
	refuses(t, "x<=10\n y & 1000", api.ErrForm, 9)
	refuses(t, "a , 1000", api.ErrForm, 2)
	refuses(t, "a ;; 1 0001 #", api.ErrForm, 7)
}

func TestIsWord(t *testing.T) {
	for _, s := range []string{"a", "z", "_", "__", "a1", "_0", "x_y", "abcdefgh", "________", "z9_z9_z9"} {
		if !lex.IsWord(s) {
			t.Errorf("IsWord(%q): false", s)
		}
	}
	wrong := []string{"", " ", "\n", "1", "12", "999", "X", "F", "G", "U", "R", "A", "#", "é", "\x00"}
	wrong = append(wrong, strings.Fields(signs)...)
	wrong = append(wrong, "abcdefghi", "_________", "z9_z9_z9_", "a12345678")
	wrong = append(wrong, " a", "a ", "\ta", "a\n", "a\r", "a\x00", " abcdefgh", "abcdefgh ", "a b", "a\nb")
	wrong = append(wrong, "9a", "1 a", "aX", "Xa", "aA", "a-b", "a;", "(a)", "a#", "é", "aé", "a\xff", "\x80")
	wrong = append(wrong, strings.Repeat("a", api.MaxText), strings.Repeat("a", api.MaxText+1), strings.Repeat(" ", api.MaxText+1), "a"+strings.Repeat(" ", api.MaxText))
	for _, s := range wrong {
		if lex.IsWord(s) {
			t.Errorf("IsWord(%.40q): true", s)
		}
	}
}

// R2: the tokens keep nothing of the text: its memory may be used for something else behind the call.
func TestTextIsNotKept(t *testing.T) {
	b := []byte("abc <= 10 && X")
	l, e, _ := lex.Lex(unsafe.String(&b[0], len(b)))
	if e != api.OK || string(b) != "abc <= 10 && X" {
		t.Fatalf("%d, %q", e, b)
	}
	clear(b)
	want := []lex.Token{word("abc", 0), sign("<=", 4), number("10", 10, 7), sign("&&", 10), letter("X", 13), {Kind: lex.End, At: 14}}
	if !slices.Equal(l, want) {
		t.Errorf("%v, not %v", l, want)
	}
}

// R2: each answer is new memory, its spare room too.
func TestAnswersShareNothing(t *testing.T) {
	for _, s := range []string{"", " ", "x<=10", "a b c d e f"} {
		one, _, _ := lex.Lex(s)
		two, _, _ := lex.Lex(s)
		want := slices.Clone(two)
		one = one[:cap(one)]
		for k := range one {
			one[k] = lex.Token{Kind: 99, Text: "turned", N: 99, At: 99}
		}
		three, _, _ := lex.Lex(s)
		if !slices.Equal(two, want) || !slices.Equal(three, want) {
			t.Errorf("%q: %v, %v, not %v", s, two, three, want)
		}
	}
}

// R3, R4: what was asked ahead turns nothing, an error neither.
func TestCallsTurnNothing(t *testing.T) {
	texts := []string{"x<=10", "#", "a 1000", "", strings.Repeat("a", api.MaxText+1), "abcdefghi", "XFGUR", "&"}
	for range 3 {
		for _, s := range texts {
			asks(t, s)
		}
		slices.Reverse(texts)
	}
}
