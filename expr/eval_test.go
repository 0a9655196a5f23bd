package expr_test

import (
	"math/big"
	"math/rand"
	"slices"
	"strings"
	"testing"

	"lariat/api"
	"lariat/expr"
)

func some() (api.Model, api.State) {
	m := api.Model{
		Vars:  []api.Variable{{Name: "x", High: 9}, {Name: "y", Low: -9, High: 9}, {Name: "z"}},
		Procs: []api.Process{{Name: "p", Locs: []string{"a", "b", "c"}}, {Name: "q", Locs: []string{"b", "a"}}},
	}
	return m, api.State{Locs: []int{1, 0}, Vals: []int{3, -2, 0}}
}

// evals asks for the value of a text.
func evals(t *testing.T, s api.State, text string, want int) {
	t.Helper()
	m, _ := some()
	if got := expr.Eval(m, s, parsed(t, text)); got != want {
		t.Errorf("8.3: %q in %v: %d, not %d", text, s, got, want)
	}
}

func TestEvalEachKind(t *testing.T) {
	_, s := some()
	for text, want := range map[string]int{
		"0": 0, "7": 7, "999": 999, "x": 3, "y": -2, "z": 0,
		"p@a": 0, "p@b": 1, "p@c": 0, "q@a": 0, "q@b": 1,
		"!0": 1, "!1": 0, "!x": 0, "!y": 0, "!z": 1, "!!y": 1, "!p@b": 0, "!p@a": 1,
		"-0": 0, "-x": -3, "-y": 2, "--y": -2, "x*y": -6, "x*z": 0, "y*y": 4, "x+y": 1, "y+y": -4, "x-y": 5, "y-x": -5,
		"x<3": 0, "x<4": 1, "x<2": 0, "x<=3": 1, "x<=2": 0, "x<=4": 1, "x>3": 0, "x>2": 1, "x>4": 0, "x>=3": 1, "x>=4": 0, "x>=2": 1,
		"x==3": 1, "x==2": 0, "x!=3": 0, "x!=2": 1, "y<z": 1, "y<-2": 0, "y==-2": 1, "y>-3": 1,
		"0&&0": 0, "0&&1": 0, "1&&0": 0, "1&&1": 1, "x&&y": 1, "y&&z": 0, "z&&y": 0, "2&&4": 1, "-1&&1": 1,
		"0||0": 0, "0||1": 1, "1||0": 1, "1||1": 1, "x||y": 1, "y||z": 1, "z||y": 1, "z||0": 0, "2||0": 1,
		"10-4-3": 3, "10-(4-3)": 9, "2+3*4": 14, "(2+3)*4": 20,
	} {
		evals(t, s, text, want)
	}
}

func TestEvalBounds(t *testing.T) {
	_, s := some()
	for text, want := range map[string]int{
		"999*100": 99900, "999*100+99": 99999, "999*100+100": 99999, "999*101": 99999, "999*999": 99999, "-999*999": -99999, "999*-999": -99999, "-999*-999": 99999,
		"-999*100-99": -99999, "-999*100-100": -99999, "999*999-1": 99998, "999*999+1-1": 99998, "-(999*999)+1": -99998, "-(999*999)": -99999, "--(999*999)": 99999,
		"999*999*0": 0, "999*999*-1": -99999, "999*999*(999*999)": 99999, "999*999*-(999*999)": -99999, "999*999-999*999": 0, "999*999+999*999": 99999, "-(999*999)-999*999": -99999,
		"999*999==999*998": 1, "999*999>999*100": 1, "!(999*999)": 0, "999*999&&1": 1, strings.Repeat("999*", 14) + "999": 99999, "-999" + strings.Repeat("*999", 13): -99999,
		"(999*999)-(-999*999)": 99999, "(-999*999)-(999*999)": -99999,
	} {
		evals(t, s, text, want)
	}
	for _, c := range []struct{ is, want int }{
		{99998, 99998}, {99999, 99999}, {100000, 99999}, {1<<63 - 1, 99999}, {-99998, -99998}, {-99999, -99999}, {-100000, -99999}, {-1 << 63, -99999}, {1 << 32, 99999}, {-1 << 32, -99999},
	} {
		s.Vals[0] = c.is
		evals(t, s, "x", c.want)
		evals(t, s, "-x", -c.want)
		evals(t, s, "x*1", c.want)
		evals(t, s, "x-x", 0)
	}
}

// A process that is at no place of its own is not at any.
func TestEvalPlacesBeyond(t *testing.T) {
	_, s := some()
	for _, at := range []int{-1, 3, 4, 1 << 40, -1 << 63, 1<<63 - 1} {
		s.Locs[0] = at
		evals(t, s, "p@a||p@b||p@c", 0)
		evals(t, s, "q@b", 1)
	}
	s.Locs = []int{2, 1}
	evals(t, s, "p@c", 1)
	evals(t, s, "p@a||p@b", 0)
	evals(t, s, "q@a", 1)
	evals(t, s, "q@b", 0)
}

// 0, where the state is none of the model's, or the model does not know the expression.
func TestEvalOfNone(t *testing.T) {
	m, s := some()
	one := parsed(t, "1")
	for k, s := range []api.State{
		{}, {Locs: s.Locs}, {Vals: s.Vals}, {Locs: s.Locs[:1], Vals: s.Vals}, {Locs: s.Locs, Vals: s.Vals[:2]}, {Locs: append(s.Locs[:2:2], 0), Vals: s.Vals}, {Locs: s.Locs, Vals: append(s.Vals[:3:3], 0)},
	} {
		if got := expr.Eval(m, s, one); got != 0 {
			t.Errorf("8.3: state %d: %d", k, got)
		}
	}
	for _, text := range []string{"w", "1||w", "p", "p@x", "q@c", "x@a", "w@a", "1+p@z"} {
		evals(t, s, text, 0)
	}
	for k, l := range [][]api.Term{nil, {num(1), num(1)}, {num(1000)}, {{Op: api.Num, N: 1, Name: "x"}}, {op(api.Add)}, {x, op(17)}} {
		if got := expr.Eval(m, s, l); got != 0 {
			t.Errorf("8.3: list %d: %d", k, got)
		}
	}
	if expr.Eval(m, s, one) != 1 || expr.Eval(api.Model{}, api.State{}, one) != 1 || expr.Eval(api.Model{}, s, one) != 0 {
		t.Error("8.3: 1")
	}
}

// plainEval works the value out from the last term on, with numbers that have no bounds of their own; and tells how many terms it took.
func plainEval(m api.Model, s api.State, l []api.Term) (*big.Int, int) {
	last := l[len(l)-1]
	switch last.Op {
	case api.Num:
		return big.NewInt(int64(last.N)), 1
	case api.Var:
		k := slices.IndexFunc(m.Vars, func(v api.Variable) bool { return v.Name == last.Name })
		return within(big.NewInt(int64(s.Vals[k]))), 1
	case api.At:
		k := slices.IndexFunc(m.Procs, func(p api.Process) bool { return p.Name == last.Name })
		return truth(slices.Index(m.Procs[k].Locs, last.Loc) == s.Locs[k]), 1
	}
	b, took := plainEval(m, s, l[:len(l)-1])
	switch last.Op {
	case api.Not:
		return truth(b.Sign() == 0), took + 1
	case api.Neg:
		return within(new(big.Int).Neg(b)), took + 1
	}
	a, more := plainEval(m, s, l[:len(l)-1-took])
	return plainOfTwo(last.Op, a, b), took + more + 1
}

func plainOfTwo(kind int, a, b *big.Int) *big.Int {
	c := a.Cmp(b)
	switch kind {
	case api.Mul:
		return within(new(big.Int).Mul(a, b))
	case api.Add:
		return within(new(big.Int).Add(a, b))
	case api.Sub:
		return within(new(big.Int).Sub(a, b))
	case api.And:
		return truth(a.Sign() != 0 && b.Sign() != 0)
	case api.Or:
		return truth(a.Sign() != 0 || b.Sign() != 0)
	}
	return truth(map[int]bool{api.Lt: c < 0, api.Le: c <= 0, api.Gt: c > 0, api.Ge: c >= 0, api.Eq: c == 0, api.Ne: c != 0}[kind])
}

func truth(is bool) *big.Int {
	if is {
		return big.NewInt(1)
	}
	return big.NewInt(0)
}

func within(n *big.Int) *big.Int {
	for _, sign := range []int64{1, -1} {
		if most := big.NewInt(sign * api.MaxValue); n.Cmp(most) == int(sign) {
			return most
		}
	}
	return n
}

// Expressions of all sizes, in many states, held against plain numbers.
func TestEvalMixed(t *testing.T) {
	m, _ := some()
	r := rand.New(rand.NewSource(83))
	leaves := list(x, y, z, num(0), num(1), num(999), num(500), place("p", "a"), place("p", "c"), place("q", "b"))
	values := []int{0, 1, -1, 3, 999, -999, 99999, -99999, 100000, -100000, 1<<63 - 1, -1 << 63}
	for range 20000 {
		s := api.State{Locs: []int{r.Intn(3), r.Intn(2)}}
		for range 3 {
			s.Vals = append(s.Vals, values[r.Intn(len(values))])
		}
		l := randomTree(r, 1+r.Intn(api.MaxTerms), leaves)
		want, _ := plainEval(m, s, l)
		if got := expr.Eval(m, s, l); int64(got) != want.Int64() {
			t.Fatalf("8.3: %q in %v: %d, not %d", expr.Print(l), s, got, want)
		}
	}
}

// Each sign of two operands, over values of each sort on each side.
func TestEvalAllPairs(t *testing.T) {
	m, s := some()
	values := []int{0, 1, -1, 2, -2, 316, 317, -317, 999, 50000, -50000, 99998, 99999, -99999, 100001, -100001}
	for _, kind := range allTwos {
		for _, a := range values {
			for _, b := range values {
				s.Vals[0], s.Vals[1] = a, b
				l := list(x, y, op(kind))
				want, _ := plainEval(m, s, l)
				if got := expr.Eval(m, s, l); int64(got) != want.Int64() {
					t.Errorf("8.3: kind %d of %d and %d: %d, not %d", kind, a, b, got, want)
				}
			}
		}
	}
}

// What is handed in stays as it is, its spare room too.
func TestNothingIsTurned(t *testing.T) {
	m, s := some()
	l := append(make([]api.Term, 0, 60), parsed(t, "(x+1)*2<3||p@b")...)
	s.Locs, s.Vals = append(make([]int, 0, 9), s.Locs...), append(make([]int, 0, 9), s.Vals...)
	s.Locs[:9][5], s.Vals[:9][5] = 77, 77
	wasL := slices.Clone(l[:60])
	wasLocs, wasVals := slices.Clone(s.Locs[:9]), slices.Clone(s.Vals[:9])
	for range 2 {
		if expr.Eval(m, s, l) != 1 || !expr.Right(l) || !expr.Known(m, l) || !expr.Same(l, l) || expr.Print(l) != "(x+1)*2<3||p@b" {
			t.Error("R4: not the same again")
		}
	}
	other, _ := some()
	same := slices.Equal(m.Vars, other.Vars) && slices.EqualFunc(m.Procs, other.Procs, func(a, b api.Process) bool { return a.Name == b.Name && slices.Equal(a.Locs, b.Locs) })
	if !same || !slices.Equal(l[:60], wasL) || !slices.Equal(s.Locs[:9], wasLocs) || !slices.Equal(s.Vals[:9], wasVals) {
		t.Error("R2: what was handed in was turned")
	}
}
