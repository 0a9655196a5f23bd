package expr

import (
	"strconv"

	"lariat/api"
)

// printed is the text of an expression, and the strength of its last term.
type printed struct {
	text     string
	strength int
}

// Print answers the text of an expression, with the fewest brackets.
func Print(l []api.Term) string {
	if !Right(l) {
		return ""
	}
	return fold(l, printTerm).text
}

func printTerm(t api.Term, of []printed) printed {
	s := signOf(t.Op)
	switch len(of) {
	case 0:
		return printed{name(t), alone}
	case 1:
		return printed{s.text + within(of[0], s.strength), s.strength}
	}
	left := s.strength
	if s.strength == compares {
		// Two of them in a row would be none.
		left++
	}
	return printed{within(of[0], left) + s.text + within(of[1], s.strength+1), s.strength}
}

// within answers a text, in brackets if it is weaker than it may be.
func within(p printed, least int) string {
	if p.strength < least {
		return "(" + p.text + ")"
	}
	return p.text
}

// name answers the text of a term without operands.
func name(t api.Term) string {
	switch t.Op {
	case api.Num:
		return strconv.Itoa(t.N)
	case api.At:
		return t.Name + "@" + t.Loc
	}
	return t.Name
}

// signOf answers the sign of a kind of terms; the zero one, if it has none.
func signOf(op int) sign {
	for _, s := range signs {
		if s.op == op {
			return s
		}
	}
	return sign{}
}
