package expr_test

import (
	"math/rand"
	"slices"
	"strings"
	"testing"

	"lariat/api"
	"lariat/expr"
	"lariat/lex"
)

// levels is the chapter's signs between two operands, by rising strength.
var levels = [][]string{{"||"}, {"&&"}, {"<", "<=", ">", ">=", "==", "!="}, {"+", "-"}, {"*"}}

const comparisons = 2

var kinds = map[string]int{
	"||": api.Or, "&&": api.And, "<": api.Lt, "<=": api.Le, ">": api.Gt, ">=": api.Ge, "==": api.Eq, "!=": api.Ne,
	"+": api.Add, "-": api.Sub, "*": api.Mul,
}

var aheads = map[string]int{"!": api.Not, "-": api.Neg}

func num(n int) api.Term              { return api.Term{Op: api.Num, N: n} }
func named(name string) api.Term      { return api.Term{Op: api.Var, Name: name} }
func place(name, loc string) api.Term { return api.Term{Op: api.At, Name: name, Loc: loc} }
func op(kind int) api.Term            { return api.Term{Op: kind} }
func list(l ...api.Term) []api.Term   { return l }

// grammar goes along tokens by the chapter's words, one call a level.
type grammar struct {
	l   []lex.Token
	at  int
	bad bool
}

func (g *grammar) text() string { return g.l[g.at].Text }

func (g *grammar) level(k int) []api.Term {
	if k == len(levels) {
		return g.ahead()
	}
	l := g.level(k + 1)
	for !g.bad && g.l[g.at].Kind == lex.Sign && slices.Contains(levels[k], g.text()) {
		kind := kinds[g.text()]
		g.at++
		l = append(append(l, g.level(k+1)...), op(kind))
		if k == comparisons {
			break
		}
	}
	return l
}

func (g *grammar) ahead() []api.Term {
	if kind, is := aheads[g.text()]; is {
		g.at++
		return append(g.ahead(), op(kind))
	}
	return g.alone()
}

func (g *grammar) alone() []api.Term {
	t := g.l[g.at]
	switch {
	case t.Kind == lex.Number:
		g.at++
		return list(num(t.N))
	case t.Kind == lex.Word:
		g.at++
		if g.text() != "@" {
			return list(named(t.Text))
		}
		g.at++
		loc := g.text()
		g.asks(g.l[g.at].Kind == lex.Word)
		return list(place(t.Text, loc))
	}
	g.asks(t.Text == "(")
	if g.bad {
		return nil
	}
	l := g.level(0)
	if !g.bad {
		g.asks(g.text() == ")")
	}
	return l
}

// asks takes the token that is here, if it fits.
func (g *grammar) asks(fits bool) {
	if !fits {
		g.bad = true
		return
	}
	g.at++
}

// plainTake is what Take shall answer of a list that Lex told, and a place in it.
func plainTake(l []lex.Token, from int) ([]api.Term, int, api.Errno) {
	g := grammar{l: l, at: from}
	x := g.level(0)
	if g.bad {
		return nil, g.at, api.ErrForm
	}
	if len(x) > api.MaxTerms {
		return nil, from, api.ErrLimit
	}
	return x, g.at, api.OK
}

// plainParse is what Parse shall answer.
func plainParse(s string) ([]api.Term, api.Errno, int) {
	l, e, at := lex.Lex(s)
	if e != api.OK {
		return nil, e, at
	}
	x, behind, e := plainTake(l, 0)
	if e == api.OK && l[behind].Kind != lex.End {
		x, e = nil, api.ErrForm
	}
	if e == api.OK {
		return x, api.OK, 0
	}
	return nil, e, l[behind].At
}

// asksParse holds what Parse answers against the grammar.
func asksParse(t *testing.T, s string) []api.Term {
	t.Helper()
	l, e, at := expr.Parse(s)
	wantL, wantE, wantAt := plainParse(s)
	if !slices.Equal(l, wantL) || e != wantE || at != wantAt {
		t.Errorf("Parse(%.60q): %v, %d, %d, not %v, %d, %d", s, l, e, at, wantL, wantE, wantAt)
	}
	return l
}

// gives asks that a text is these terms.
func gives(t *testing.T, s string, want ...api.Term) {
	t.Helper()
	if l, e, at := expr.Parse(s); !slices.Equal(l, want) || e != api.OK || at != 0 {
		t.Errorf("Parse(%.60q): %v, %d, %d, not %v", s, l, e, at, want)
	}
}

// refuses asks that a text is an error, and where, and that there are no terms beside it.
func refuses(t *testing.T, s string, want api.Errno, where int) {
	t.Helper()
	if l, e, at := expr.Parse(s); len(l) != 0 || e != want || at != where {
		t.Errorf("Parse(%.60q): %v, %d, %d, not %d, %d", s, l, e, at, want, where)
	}
}

// parsed answers the terms of a text that has some.
func parsed(t *testing.T, s string) []api.Term {
	t.Helper()
	l, e, at := expr.Parse(s)
	if e != api.OK || at != 0 {
		t.Fatalf("Parse(%.60q): %d, %d", s, e, at)
	}
	return l
}

// tokens answers the tokens of a text that has some.
func tokens(t *testing.T, s string) []lex.Token {
	t.Helper()
	l, e, _ := lex.Lex(s)
	if e != api.OK {
		t.Fatalf("Lex(%.60q): %d", s, e)
	}
	return l
}

// rows calls do with each row of n of the texts, with a blank between.
func rows(texts []string, n int, do func(string)) {
	row := make([]string, n)
	var fill func(int)
	fill = func(k int) {
		if k == n {
			do(strings.Join(row, " "))
			return
		}
		for _, s := range texts {
			row[k] = s
			fill(k + 1)
		}
	}
	fill(0)
}

// trees answers all expressions of n terms over these leaves and kinds.
func trees(n int, leaves []api.Term, ones, twos []int) [][]api.Term {
	made := [][][]api.Term{nil}
	for size := 1; size <= n; size++ {
		var all [][]api.Term
		for _, leaf := range leaves {
			if size == 1 {
				all = append(all, list(leaf))
			}
		}
		for _, kind := range ones {
			for _, x := range made[size-1] {
				all = append(all, append(slices.Clone(x), op(kind)))
			}
		}
		for left := 1; left < size-1; left++ {
			for _, kind := range twos {
				for _, a := range made[left] {
					for _, b := range made[size-1-left] {
						all = append(all, append(slices.Concat(a, b), op(kind)))
					}
				}
			}
		}
		made = append(made, all)
	}
	return made[n]
}

var allOnes = []int{api.Not, api.Neg}

var allTwos = []int{api.Mul, api.Add, api.Sub, api.Lt, api.Le, api.Gt, api.Ge, api.Eq, api.Ne, api.And, api.Or}

// randomTree answers an expression of n terms over these leaves.
func randomTree(r *rand.Rand, n int, leaves []api.Term) []api.Term {
	switch {
	case n == 1:
		return list(leaves[r.Intn(len(leaves))])
	case n == 2 || r.Intn(4) == 0:
		return append(randomTree(r, n-1, leaves), op(allOnes[r.Intn(len(allOnes))]))
	}
	left := 1 + r.Intn(n-2)
	return append(append(randomTree(r, left, leaves), randomTree(r, n-1-left, leaves)...), op(allTwos[r.Intn(len(allTwos))]))
}
