package expr

import (
	"slices"
	"strings"

	"lariat/api"
	"lariat/lex"
)

// taker goes along tokens, of which the last one is End.
type taker struct {
	tokens   []lex.Token
	at       int
	terms    []api.Term
	waiting  []sign // a stack: the signs whose last operand is not whole yet, and the open brackets
	brackets int    // how many of those that wait are brackets
}

// Parse answers the terms of a text; or an error, and where.
func Parse(s string) ([]api.Term, api.Errno, int) {
	tokens, e, at := lex.Lex(s)
	if e != api.OK {
		return nil, e, at
	}
	terms, behind, e := take(tokens, 0)
	if e != api.OK {
		return nil, e, tokens[behind].At
	}
	if tokens[behind].Kind != lex.End {
		return nil, api.ErrForm, tokens[behind].At
	}
	return terms, api.OK, 0
}

// Take answers the longest expression that begins at a place of the tokens, and the place behind it; or an error, and its place.
func Take(l []lex.Token, from int) ([]api.Term, int, api.Errno) {
	if from < 0 || from >= len(l) || !areTold(l) {
		return nil, from, api.ErrForm
	}
	return take(l, from)
}

// take is Take of tokens that Lex told, and of a place in them.
func take(l []lex.Token, from int) ([]api.Term, int, api.Errno) {
	t := taker{tokens: l, at: from}
	if !t.expression() {
		return nil, t.at, api.ErrForm
	}
	if len(t.terms) > api.MaxTerms {
		return nil, from, api.ErrLimit
	}
	return t.terms, t.at, api.OK
}

// expression takes as long a one as there is; false: the token that it came to does not fit.
func (t *taker) expression() bool {
	for {
		if !t.operand() {
			return false
		}
		t.closings()
		if !t.goesOn() {
			break
		}
	}
	if t.brackets > 0 {
		return false
	}
	t.letGo(either)
	return true
}

// operand takes a Number, a Word or a Word at a Word, and the signs and brackets that stand ahead of it.
func (t *taker) operand() bool {
	t.openings()
	switch now := t.now(); now.Kind {
	case lex.Number:
		t.put(api.Term{Op: api.Num, N: now.N})
		return true
	case lex.Word:
		return t.name()
	}
	return false
}

// name takes a Word, or a Word at a Word. The names are copies, as a piece of a text would keep the whole of it.
func (t *taker) name() bool {
	name := strings.Clone(t.now().Text)
	t.at++
	if t.now().Text != "@" {
		t.terms = append(t.terms, api.Term{Op: api.Var, Name: name})
		return true
	}
	t.at++
	if t.now().Kind != lex.Word {
		return false
	}
	t.put(api.Term{Op: api.At, Name: name, Loc: strings.Clone(t.now().Text)})
	return true
}

// openings takes the signs and brackets that stand ahead of an operand.
func (t *taker) openings() {
	for {
		s, is := signAhead(t.now().Text)
		switch {
		case is:
			t.wait(s)
		case t.now().Text == "(":
			t.wait(sign{strength: open})
			t.brackets++
		default:
			return
		}
	}
}

// closings takes the brackets that close open ones.
func (t *taker) closings() {
	for t.brackets > 0 && t.now().Text == ")" {
		t.letGo(either)
		t.waiting = t.waiting[:len(t.waiting)-1]
		t.brackets--
		t.at++
	}
}

// goesOn takes a sign between two operands, if one stands here that may.
func (t *taker) goesOn() bool {
	s, is := signBetween(t.now().Text)
	if !is {
		return false
	}
	t.letGo(s.strength + 1)
	if s.strength == compares && t.waits(compares) {
		return false
	}
	t.letGo(s.strength)
	t.wait(s)
	return true
}

// letGo puts the signs on top that have a strength, or a greater one: their last operands are whole.
func (t *taker) letGo(strength int) {
	for t.waits(strength) {
		top := len(t.waiting) - 1
		t.terms = append(t.terms, api.Term{Op: t.waiting[top].op})
		t.waiting = t.waiting[:top]
	}
}

// waits tells if the sign on top has a strength, or a greater one.
func (t *taker) waits(strength int) bool {
	return len(t.waiting) > 0 && t.waiting[len(t.waiting)-1].strength >= strength
}

// wait lays a sign, which is the token here, on top.
func (t *taker) wait(s sign) {
	t.waiting = append(t.waiting, s)
	t.at++
}

// put adds a term of which the token here is the last one.
func (t *taker) put(x api.Term) {
	t.terms = append(t.terms, x)
	t.at++
}

func (t *taker) now() lex.Token {
	return t.tokens[t.at]
}

// signAhead answers the sign of a text that stands ahead of one operand.
func signAhead(text string) (sign, bool) {
	for _, s := range signs {
		if s.text == text && s.strength == ahead {
			return s, true
		}
	}
	return sign{}, false
}

// signBetween answers the sign of a text that stands between two operands.
func signBetween(text string) (sign, bool) {
	for _, s := range signs {
		if s.text == text && s.strength < ahead {
			return s, true
		}
	}
	return sign{}, false
}

// areTold tells if there is a text of which Lex tells these tokens: their places may be so, and the text that they make, its blanks shortened, has them.
func areTold(l []lex.Token) bool {
	var text strings.Builder
	behind := 0
	for _, t := range l {
		if t.At < behind || t.At > api.MaxText-len(t.Text) {
			return false
		}
		if t.At > behind {
			text.WriteByte(' ')
		}
		text.WriteString(t.Text)
		behind = t.At + len(t.Text)
	}
	told, _, _ := lex.Lex(text.String())
	return slices.EqualFunc(l, told, sameButPlace)
}

func sameButPlace(a, b lex.Token) bool {
	a.At = b.At
	return a == b
}
