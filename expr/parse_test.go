package expr_test

import (
	"math/rand"
	"slices"
	"strings"
	"testing"
	"unsafe"

	"lariat/api"
	"lariat/expr"
	"lariat/lex"
)

var (
	x = named("x")
	y = named("y")
	z = named("z")
)

// The chapter's example.
func TestExample(t *testing.T) {
	gives(t, "(x + 1) * 2 < 3", x, num(1), op(api.Add), num(2), op(api.Mul), num(3), op(api.Lt))
	if s := expr.Print(parsed(t, "(x + 1) * 2 < 3")); s != "(x+1)*2<3" {
		t.Errorf("8: the example: %q", s)
	}
}

func TestEachSign(t *testing.T) {
	for text, kind := range kinds {
		gives(t, "x"+text+"y", x, y, op(kind))
		gives(t, " x "+text+"\n7\t", x, num(7), op(kind))
		refuses(t, "x"+text, api.ErrForm, 1+len(text))
		if text != "-" {
			refuses(t, text+"x", api.ErrForm, 0)
		}
	}
	for text, kind := range aheads {
		gives(t, text+"x", x, op(kind))
		gives(t, strings.Repeat(text, 29)+"x", append(list(x), slices.Repeat(list(op(kind)), 29)...)...)
		refuses(t, text, api.ErrForm, 1)
	}
	gives(t, "!-!x", x, op(api.Not), op(api.Neg), op(api.Not))
	gives(t, "0", num(0))
	gives(t, "000", num(0))
	gives(t, "007", num(7))
	gives(t, "999", num(999))
	gives(t, "true", named("true"))
	gives(t, "p@a", place("p", "a"))
	gives(t, "p @\na", place("p", "a"))
	gives(t, "p@p", place("p", "p"))
}

func strength(text string) int {
	return slices.IndexFunc(levels, func(l []string) bool { return slices.Contains(l, text) })
}

// Two signs, one behind the other: the stronger one is done first, of two of one strength the left one; brackets turn it.
func TestPairs(t *testing.T) {
	for a, first := range kinds {
		for b, second := range kinds {
			left := list(x, y, op(first), z, op(second))
			right := list(x, y, z, op(second), op(first))
			bare := "x" + a + "y" + b + "z"
			switch {
			case strength(a) < strength(b):
				gives(t, bare, right...)
			case strength(a) > strength(b):
				gives(t, bare, left...)
			case strength(a) == comparisons:
				refuses(t, bare, api.ErrForm, 2+len(a))
				refuses(t, "("+bare+")", api.ErrForm, 3+len(a))
			default:
				gives(t, bare, left...)
			}
			gives(t, "(x"+a+"y)"+b+"z", left...)
			gives(t, "x"+a+"(y"+b+"z)", right...)
			gives(t, "((x)"+a+"(((y))"+b+"(z)))", right...)
		}
		for c, ahead := range aheads {
			gives(t, c+"x"+a+"y", x, op(ahead), y, op(first))
			gives(t, "x"+a+c+"y", x, y, op(ahead), op(first))
			gives(t, c+"(x"+a+"y)", x, y, op(first), op(ahead))
			gives(t, c+"p@q"+a+"y", place("p", "q"), op(ahead), y, op(first))
		}
	}
}

func TestComparisonsInARow(t *testing.T) {
	lt, add, and := op(api.Lt), op(api.Add), op(api.And)
	gives(t, "x<y&&y<z", x, y, lt, y, z, lt, and)
	gives(t, "x+1<y+z", x, num(1), add, y, z, add, lt)
	gives(t, "(x<y)<(y<z)", x, y, lt, y, z, lt, lt)
	gives(t, "x<(y<z)", x, y, z, lt, lt)
	gives(t, "(x<y)+(y<z)<z", x, y, lt, y, z, lt, add, z, lt)
	refuses(t, "x<y<z", api.ErrForm, 3)
	refuses(t, "x<y+1<z", api.ErrForm, 5)
	refuses(t, "x<!y==z", api.ErrForm, 4)
	refuses(t, "x<(y)>=z", api.ErrForm, 5)
	refuses(t, "x&&x<y<z", api.ErrForm, 6)
	refuses(t, "x<y&&x<y<z", api.ErrForm, 8)
	refuses(t, "x+(x<y<z)", api.ErrForm, 6)
	// What stands behind the second one is never asked.
	refuses(t, "x<y<", api.ErrForm, 3)
	refuses(t, "x<y<)", api.ErrForm, 3)
}

func TestWhereParseFails(t *testing.T) {
	for s, where := range map[string]int{
		"": 0, " \n\t": 3, ")": 0, "(": 1, "()": 1, "( )": 2, "((x)": 4, "(x": 2, "(x ": 3, "(x))": 3, "x)": 1, "x (": 2, "(x y)": 3, "(x;": 2,
		"x@": 2, "x @ ": 4, "x@1": 2, "x@X": 2, "x@(": 2, "x@(a)": 2, "x@@": 2, "x@a@b": 3, "1@a": 1, "(x)@a": 3, "@a": 0, "x @ !": 4,
		"X": 0, "xX": 1, "x X": 2, "x+X": 2, "X x": 0, "x U y": 2, "[": 0, "]": 0, "[x]": 0, "x]": 1, "x[1": 1, "x->y": 1, "->x": 0, "x;y": 1, ";": 0,
		"x=y": 1, "=x": 0, "x y": 2, "x 1": 2, "1 x": 2, "1 2": 2, "x++y": 2, "x+*y": 2, "x&&||y": 3, "x!y": 1, "x!": 1, "x(y)": 1, "(x)(y)": 3, "!)": 1, "x+": 2, "x + ": 4, "x-": 2, "--": 2, "x<": 2, "*x": 0, "+x": 0, "x + (y * ": 9,
	} {
		refuses(t, s, api.ErrForm, where)
	}
}

// Lex's errors, and their places, are ahead of all others.
func TestLexErrors(t *testing.T) {
	refuses(t, "x y #", api.ErrForm, 4)
	refuses(t, ") & x", api.ErrForm, 2)
	refuses(t, "x + 1000", api.ErrForm, 4)
	refuses(t, "(abcdefghi", api.ErrForm, 1)
	refuses(t, strings.Repeat("x+", 40)+"x %", api.ErrForm, 82)
	refuses(t, strings.Repeat("#", api.MaxText+1), api.ErrLong, 0)
	refuses(t, "x"+strings.Repeat(" ", api.MaxText), api.ErrLong, 0)
	gives(t, "x"+strings.Repeat(" ", api.MaxText-1), x)
	gives(t, strings.Repeat(" ", api.MaxText-1)+"x", x)
	refuses(t, strings.Repeat(" ", api.MaxText), api.ErrForm, api.MaxText)
}

func TestTooManyTerms(t *testing.T) {
	if api.MaxTerms != 30 {
		t.Fatal("the texts below are made for 30")
	}
	sum := "x" + strings.Repeat("+x", 14) // 29 terms
	if l := parsed(t, "-"+sum); len(l) != api.MaxTerms {
		t.Errorf("8.1: %d terms", len(l))
	}
	if l := parsed(t, "-(("+sum+"))"); len(l) != api.MaxTerms {
		t.Errorf("8.1: brackets are no terms: %d", len(l))
	}
	refuses(t, "--"+sum, api.ErrLimit, 0)
	refuses(t, sum+"*x", api.ErrLimit, 0)
	refuses(t, " \n "+sum+"*x", api.ErrLimit, 3)
	refuses(t, strings.Repeat("!", 30)+"x", api.ErrLimit, 0)
	refuses(t, strings.Repeat("x<y&&", 9)+"1", api.ErrLimit, 0)
	// It is asked last of what is taken, and ahead of what stands behind that.
	for _, behind := range []string{" )", " x", " X", ";", " 1", "@a"} {
		refuses(t, sum+"*1"+behind, api.ErrLimit, 0)
	}
	refuses(t, sum+"<x<x", api.ErrLimit, 0)
	refuses(t, sum+"*x+", api.ErrForm, 32)
	refuses(t, sum+"*x@", api.ErrForm, 32)
	refuses(t, "("+sum+"*x", api.ErrForm, 32)
	refuses(t, "("+sum+"<x<x)", api.ErrForm, 32)
	refuses(t, sum+"*x #", api.ErrForm, 32)
	refuses(t, strings.Repeat("x+", 29000)+"x", api.ErrLimit, 0)
	refuses(t, strings.Repeat("x+", 29000)+")", api.ErrForm, 58000)
	refuses(t, strings.Repeat("-", 59999)+"x", api.ErrLimit, 0)
	refuses(t, strings.Repeat("-", api.MaxText), api.ErrForm, api.MaxText)
}

// Brackets are as deep as a text is long.
func TestDeep(t *testing.T) {
	const n = 29999
	gives(t, strings.Repeat("(", n)+"xy"+strings.Repeat(")", n), named("xy"))
	gives(t, strings.Repeat("(", n)+"x"+strings.Repeat(")", n), x)
	refuses(t, strings.Repeat("(", n)+"x"+strings.Repeat(")", n-1), api.ErrForm, 2*n)
	refuses(t, strings.Repeat("(", n)+"x"+strings.Repeat(")", n+1), api.ErrForm, 2*n+1)
	refuses(t, strings.Repeat("(", api.MaxText), api.ErrForm, api.MaxText)
	refuses(t, strings.Repeat(")", api.MaxText), api.ErrForm, 0)
	gives(t, strings.Repeat("(", 9)+"x"+strings.Repeat(")", 4)+"+y"+strings.Repeat(")", 5), x, y, op(api.Add))
}

// All short rows of tokens, held against the grammar.
func TestAllShortTexts(t *testing.T) {
	all := []string{"x", "7", "X", "(", ")", "[", "+", "-", "*", "<", "!=", "&&", "||", "!", "@", "->", ";", "="}
	for n := range 4 {
		rows(all, n, func(s string) { asksParse(t, s) })
	}
	some := []string{"x", "(", ")", "-", "+", "*", "<", "&&", "@"}
	for n := 4; n <= 5; n++ {
		rows(some, n, func(s string) { asksParse(t, s) })
	}
	rows([]string{"x", "(", ")", "-", "<", "@"}, 6, func(s string) { asksParse(t, s) })
}

// Rows of operands and signs in turn, so that most of them are expressions.
func TestAllChains(t *testing.T) {
	signs := []string{"||", "&&", "<", "==", "+", "-", "*"}
	rows(signs, 4, func(s string) {
		l := strings.Fields(s)
		asksParse(t, "a"+l[0]+"b"+l[1]+"c"+l[2]+"d"+l[3]+"e")
		asksParse(t, "-a"+l[0]+"!b"+l[1]+"-c"+l[2]+"d"+l[3]+"--e")
		asksParse(t, "a"+l[0]+"(b"+l[1]+"c"+l[2]+"d)"+l[3]+"e")
		asksParse(t, "(a"+l[0]+"(b"+l[1]+"c)"+l[2]+"d)"+l[3]+"e")
	})
}

func randomText(r *rand.Rand, texts []string, n int) string {
	var b strings.Builder
	for range n {
		b.WriteString(texts[r.Intn(len(texts))])
		b.WriteString([]string{"", " ", "\n", "\t "}[r.Intn(4)])
	}
	return b.String()
}

// Long texts: of expressions of which a few tokens were turned, and of any tokens.
func TestMixedTexts(t *testing.T) {
	r := rand.New(rand.NewSource(8))
	all := []string{"x", "y1", "p", "12", "0", "X", "(", ")", "+", "-", "*", "<", ">=", "==", "&&", "||", "!", "@", "]", ";"}
	leaves := list(x, num(3), num(999), place("p", "q"), named("a_long_1"))
	ok := 0
	for range 10000 {
		asksParse(t, randomText(r, all, r.Intn(12)))
		s := expr.Print(randomTree(r, 1+r.Intn(api.MaxTerms), leaves))
		for range r.Intn(3) {
			at := r.Intn(len(s) + 1)
			s = s[:at] + " " + all[r.Intn(len(all))] + " " + s[at:]
		}
		if len(asksParse(t, s)) > 0 {
			ok++
		}
	}
	if ok < 2500 {
		t.Errorf("just %d of the texts were expressions", ok)
	}
}

// Take, from each place of many lists.
func TestTakeEverywhere(t *testing.T) {
	r := rand.New(rand.NewSource(81))
	all := []string{"x", "7", "(", ")", "+", "-", "*", "<", "==", "&&", "||", "!", "@", "X", "[", "]", ";", "=", "->"}
	for range 10000 {
		l := tokens(t, randomText(r, all, r.Intn(14)))
		for from := range l {
			asksTake(t, l, from)
		}
	}
}

// asksTake holds what Take answers of a list that Lex told against the grammar.
func asksTake(t *testing.T, l []lex.Token, from int) {
	t.Helper()
	got, at, e := expr.Take(l, from)
	want, wantAt, wantE := plainTake(l, from)
	if !slices.Equal(got, want) || at != wantAt || e != wantE {
		t.Errorf("Take(%v, %d): %v, %d, %d, not %v, %d, %d", l, from, got, at, e, want, wantAt, wantE)
	}
}

// takes asks what Take answers of a text's tokens, from a place on.
func takes(t *testing.T, s string, from int, want string, behind int) {
	t.Helper()
	l, at, e := expr.Take(tokens(t, s), from)
	if expr.Print(l) != want || at != behind || e != api.OK {
		t.Errorf("Take(%q, %d): %v, %d, %d, not %q, %d", s, from, l, at, e, want, behind)
	}
}

// takesNone asks for an error, and its place, without terms.
func takesNone(t *testing.T, l []lex.Token, from int, want api.Errno, where int) {
	t.Helper()
	if x, at, e := expr.Take(l, from); len(x) != 0 || at != where || e != want {
		t.Errorf("Take(%.200v, %d): %v, %d, %d, not %d, %d", l, from, x, at, e, want, where)
	}
}

func TestTakeLongest(t *testing.T) {
	takes(t, "x+y*z", 0, "x+y*z", 5)
	takes(t, "x+y*z", 2, "y*z", 5)
	takes(t, "x+y*z", 4, "z", 5)
	takes(t, "x<y<z", 0, "x<y", 3)
	takes(t, "x<y<z", 2, "y<z", 5)
	takes(t, "(x<y)<z==x", 0, "(x<y)<z", 7)
	takes(t, "x<y+1>=z&&x", 0, "x<y+1", 5)
	takes(t, "x y", 0, "x", 1)
	takes(t, "x 1", 0, "x", 1)
	takes(t, "x X y", 0, "x", 1)
	takes(t, "x ) + y", 0, "x", 1)
	takes(t, "(x)) + y", 0, "x", 3)
	takes(t, "(x)(y)", 0, "x", 3)
	takes(t, "x ! y", 0, "x", 1)
	takes(t, "x = y", 0, "x", 1)
	takes(t, "x -> y", 0, "x", 1)
	takes(t, "x ; y", 0, "x", 1)
	takes(t, "[x < 1] && [y]", 1, "x<1", 4)
	takes(t, "p@a@b", 0, "p@a", 3)
	takes(t, "p@a@b", 2, "a@b", 5)
	takes(t, "1@a", 0, "1", 1)
	takes(t, "x - - y", 1, "--y", 4)
	takes(t, "x - - y", 2, "-y", 4)
	sum := "x" + strings.Repeat("+x", 14)
	takes(t, "[-"+sum+"]", 1, "-"+sum, 31)
}

func TestTakeErrors(t *testing.T) {
	takesNone(t, tokens(t, "x+"), 0, api.ErrForm, 2)
	takesNone(t, tokens(t, "x+;"), 0, api.ErrForm, 2)
	takesNone(t, tokens(t, "[x@]"), 1, api.ErrForm, 3)
	takesNone(t, tokens(t, "[(x]"), 1, api.ErrForm, 3)
	takesNone(t, tokens(t, "(x<y<z)"), 0, api.ErrForm, 4)
	takesNone(t, tokens(t, "x<y<"), 3, api.ErrForm, 3)
	takesNone(t, tokens(t, "x)"), 1, api.ErrForm, 1)
	takesNone(t, tokens(t, "x"), 1, api.ErrForm, 1)
	takesNone(t, tokens(t, ""), 0, api.ErrForm, 0)
	sum := "x" + strings.Repeat("+x", 15)
	takesNone(t, tokens(t, "["+sum+"]"), 1, api.ErrLimit, 1)
	takesNone(t, tokens(t, "[ "+sum+" x"), 1, api.ErrLimit, 1)
	takesNone(t, tokens(t, "["+sum+"+]"), 1, api.ErrForm, 33)
}

func TestTakeFromNoPlace(t *testing.T) {
	l := tokens(t, "x+y")
	for _, from := range []int{-1, -2, 4, 5, 1 << 40, -1 << 63, 1<<63 - 1} {
		takesNone(t, l, from, api.ErrForm, from)
		takesNone(t, nil, from, api.ErrForm, from)
	}
	takesNone(t, l, 3, api.ErrForm, 3)
	takesNone(t, nil, 0, api.ErrForm, 0)
	takesNone(t, []lex.Token{}, 0, api.ErrForm, 0)
	takesNone(t, make([]lex.Token, 3), 1, api.ErrForm, 1)
}

// plainTold tells if Lex tells a list of the text in which its tokens stand at their places.
func plainTold(l []lex.Token) bool {
	text := []byte(strings.Repeat(" ", api.MaxText))
	for _, t := range l {
		if t.At < 0 || t.At > len(text) || len(t.Text) > len(text)-t.At {
			return false
		}
		copy(text[t.At:], t.Text)
	}
	if len(l) == 0 {
		return false
	}
	told, _, _ := lex.Lex(string(text[:l[len(l)-1].At]))
	return slices.Equal(l, told)
}

// Of a list that Lex does not tell there is no expression, wherever in it the fault lies.
func TestListsThatLexDoesNotTell(t *testing.T) {
	good := tokens(t, " x+(p @a)*12 < y] X z")
	if !plainTold(good) {
		t.Fatal("the list is one that Lex tells")
	}
	turned := func(k int, turn func(*lex.Token)) {
		t.Helper()
		l := slices.Clone(good)
		turn(&l[k])
		told := plainTold(l)
		for _, from := range []int{0, 2, 7, len(l) - 3, len(l) - 1} {
			if told {
				asksTake(t, l, from)
			} else {
				takesNone(t, l, from, api.ErrForm, from)
			}
		}
	}
	for k := range good {
		for kind := -1; kind <= 7; kind++ {
			turned(k, func(x *lex.Token) { x.Kind = kind })
		}
		for _, n := range []int{-1, 0, 1, 12, 13, 999, 1000} {
			turned(k, func(x *lex.Token) { x.N = n })
		}
		for _, by := range []int{-2, -1, 1, 2, 5, api.MaxText, 1<<62 - 1, -1 << 62} {
			turned(k, func(x *lex.Token) { x.At += by })
		}
		for _, at := range []int{1<<63 - 1, -1 << 63, 0, -1} {
			turned(k, func(x *lex.Token) { x.At = at })
		}
		for _, text := range []string{"", "x", "X", "12", "012", "+", "(", "&", "#", "x y", " ", "1000", "abcdefghi", "é", "+x", "y ", strings.Repeat("x", api.MaxText+1)} {
			turned(k, func(x *lex.Token) { x.Text = text })
		}
		short := slices.Delete(slices.Clone(good), k, k+1)
		if told := plainTold(short); told != (k < len(good)-1) {
			t.Errorf("without token %d: %v", k, told)
		}
		if k < len(good)-1 {
			asksTake(t, short, 0)
			asksTake(t, good[k:], 0)
		} else {
			takesNone(t, short, 0, api.ErrForm, 0)
		}
		takesNone(t, good[:k], 0, api.ErrForm, 0)
		takesNone(t, slices.Insert(slices.Clone(good), k, lex.Token{Kind: lex.End, At: good[k].At}), 0, api.ErrForm, 0)
		takesNone(t, slices.Insert(slices.Clone(good), k, good[k]), 0, api.ErrForm, 0)
		if k > 0 {
			swapped := slices.Clone(good)
			swapped[k], swapped[k-1] = swapped[k-1], swapped[k]
			takesNone(t, swapped, 0, api.ErrForm, 0)
		}
	}
	takesNone(t, append(slices.Clone(good), good[len(good)-1]), 0, api.ErrForm, 0)
}

// Tokens that stand with no blank between must be ones that stand so.
func TestTokensThatStandTooClose(t *testing.T) {
	end := func(at int) lex.Token { return lex.Token{Kind: lex.End, At: at} }
	word := func(text string, at int) lex.Token { return lex.Token{Kind: lex.Word, Text: text, At: at} }
	sign := func(text string, at int) lex.Token { return lex.Token{Kind: lex.Sign, Text: text, At: at} }
	one := lex.Token{Kind: lex.Number, Text: "1", N: 1, At: 1}
	takesNone(t, []lex.Token{word("x", 0), word("y", 1), end(2)}, 0, api.ErrForm, 0)
	takesNone(t, []lex.Token{word("x", 0), one, end(2)}, 0, api.ErrForm, 0)
	takesNone(t, []lex.Token{word("x", 0), sign("<", 1), sign("=", 2), end(3)}, 1, api.ErrForm, 1)
	asksTake(t, []lex.Token{word("x", 0), word("y", 2), end(3)}, 0)
	asksTake(t, []lex.Token{word("x", 0), sign("<", 1), sign("=", 3), end(4)}, 0)
	asksTake(t, []lex.Token{word("x", 7), sign("<", 9), {Kind: lex.Number, Text: "1", N: 1, At: 10}, end(11)}, 0)
	asksTake(t, []lex.Token{word("x", api.MaxText-1), end(api.MaxText)}, 0)
	asksTake(t, []lex.Token{word("x", 0), end(api.MaxText)}, 0)
	takesNone(t, []lex.Token{word("x", 0), end(api.MaxText + 1)}, 0, api.ErrForm, 0)
	takesNone(t, []lex.Token{word("x", 0), end(0)}, 0, api.ErrForm, 0)
}

// What is handed in stays as it is, its spare room too, and what is answered is new each time.
func TestTakeAndParseShareNothing(t *testing.T) {
	l := append(make([]lex.Token, 0, 40), tokens(t, "[p@a + x]")...)
	spare := l[:cap(l)]
	was := slices.Clone(spare)
	a, _, _ := expr.Take(l, 1)
	b, _, _ := expr.Take(l, 1)
	takesNone(t, l, 0, api.ErrForm, 0)
	if !slices.Equal(spare, was) {
		t.Error("R2: the tokens were turned")
	}
	clear(spare)
	clear(a[:cap(a)])
	want := list(place("p", "a"), x, op(api.Add))
	if !slices.Equal(b, want) {
		t.Errorf("R2: %v", b)
	}
	if unsafe.StringData(b[0].Name) == unsafe.StringData(was[1].Text) || unsafe.StringData(b[0].Loc) == unsafe.StringData(was[3].Text) {
		t.Error("R2: a name is the token's memory")
	}
	c, _, _ := expr.Parse("p@a+x")
	clear(b[:cap(b)])
	d, _, _ := expr.Parse("p@a+x")
	clear(c[:cap(c)])
	if !slices.Equal(d, want) {
		t.Errorf("R2: %v", d)
	}
}
