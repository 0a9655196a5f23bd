package expr_test

import (
	"math/rand"
	"slices"
	"strings"
	"testing"

	"lariat/api"
	"lariat/expr"
)

// Each thing that a list may have wrong, beside its neighbours that are right.
func TestRight(t *testing.T) {
	add, not := op(api.Add), op(api.Not)
	for k, l := range [][]api.Term{
		{num(0)}, {num(1)}, {num(api.MaxNumber)}, {x}, {named("_")}, {named("abcdefgh")}, {named("true")}, {place("p", "a")}, {place("p", "p")}, {place("abcdefgh", "hgfedcba")},
		{x, not}, {x, y, add}, {x, y, z, add, add}, {x, y, add, z, add}, {x, not, y, add}, {x, y, not, add}, {x, y, add, not},
		append(list(x), slices.Repeat(list(not), api.MaxTerms-1)...),
	} {
		if !expr.Right(l) || expr.Print(l) == "" {
			t.Errorf("8.2: Right of %d, %v", k, l)
		}
	}
	for k, l := range [][]api.Term{
		nil, {}, {num(-1)}, {num(api.MaxNumber + 1)}, {num(-1 << 63)}, {num(1<<63 - 1)},
		{add}, {not}, {x, add}, {add, x, y}, {x, add, y}, {x, y}, {x, y, z, add}, {x, y, add, add}, {not, x}, {x, y, not}, {x, not, y}, {x, y, add, z}, {x, add, x, x}, {x, add, x, x, add},
		{op(0)}, {op(-1)}, {op(17)}, {op(1 << 40)}, {x, op(0)}, {x, op(17)}, {x, y, op(17)}, {x, y, op(0)}, {x, op(-4)}, {x, y, op(100)}, {num(1), op(17)},
		{op(api.Var)}, {named("X")}, {named("x ")}, {named(" x")}, {named("1x")}, {named("x-")}, {named("é")}, {named("abcdefghi")}, {named("5")}, {named("x@y")},
		{op(api.At)}, {place("p", "")}, {place("", "a")}, {place("P", "a")}, {place("p", "A")}, {place("abcdefghi", "a")}, {place("p", "abcdefghi")}, {place("p ", "a")},
		{{Op: api.Num, Name: "x"}}, {{Op: api.Num, N: 3, Loc: "x"}}, {{Op: api.Var, Name: "x", N: 1}}, {{Op: api.Var, Name: "x", Loc: "a"}}, {{Op: api.At, Name: "p", Loc: "a", N: 1}}, {{Op: api.At, Name: "p", Loc: "a", N: -1}},
		append(list(x), slices.Repeat(list(not), api.MaxTerms)...), append(list(x), slices.Repeat(list(not), 9999)...), slices.Repeat(list(x), api.MaxTerms+1), slices.Repeat(list(x), api.MaxTerms),
	} {
		isNone(t, k, l)
	}
	for kind := api.Not; kind <= api.Or; kind++ {
		l := list(x, y, op(kind))
		if kind <= api.Neg {
			l = list(x, op(kind))
		}
		if !expr.Right(l) || expr.Right(l[1:]) || expr.Right(slices.Insert(slices.Clone(l), 0, x)) {
			t.Errorf("8.2: Right of kind %d", kind)
		}
		last := len(l) - 1
		for k, turned := range []api.Term{{Op: kind, N: 1}, {Op: kind, N: -1}, {Op: kind, Name: "x"}, {Op: kind, Loc: "x"}} {
			l[last] = turned
			isNone(t, k, l)
		}
	}
}

// isNone asks that a list is no expression, of any call.
func isNone(t *testing.T, k int, l []api.Term) {
	t.Helper()
	m, s := some()
	if expr.Right(l) || expr.Print(l) != "" || expr.Known(m, l) || expr.Eval(m, s, l) != 0 {
		t.Errorf("8.2: %d is none: %.200v", k, l)
	}
}

// All short lists, also such as are none: those that are right are just those that come out of a text.
func TestAllShortLists(t *testing.T) {
	few := list(x, num(2), place("p", "a"), op(api.Not), op(api.Neg), op(api.Sub), op(api.Lt), op(api.And))
	for n := range 6 {
		from := map[string]bool{}
		if n > 0 {
			for _, l := range trees(n, few[:3], []int{api.Not, api.Neg}, []int{api.Sub, api.Lt, api.And}) {
				from[key(l)] = true
			}
		}
		l := make([]api.Term, n)
		var fill func(int)
		fill = func(k int) {
			if k == n {
				if right := from[key(l)]; expr.Right(l) != right || (expr.Print(l) != "") != right {
					t.Errorf("8.2: %v: %v", l, !right)
				}
				return
			}
			for _, x := range few {
				l[k] = x
				fill(k + 1)
			}
		}
		fill(0)
	}
}

// key is a list of which the terms are unlike in their kinds.
func key(l []api.Term) string {
	var b strings.Builder
	for _, x := range l {
		b.WriteByte(byte(x.Op))
	}
	return b.String()
}

func TestKnown(t *testing.T) {
	m := api.Model{
		Vars:  []api.Variable{{Name: "x"}, {Name: "a"}},
		Procs: []api.Process{{Name: "p", Locs: []string{"a", "b"}}, {Name: "q", Locs: []string{"c"}}, {Name: "r"}},
	}
	for text, want := range map[string]bool{
		"1": true, "x": true, "a": true, "y": false, "p": false, "b": false, "q": false, "x+y": false, "y+x": false, "x+a*x": true, "-(x<!a)": true,
		"p@a": true, "p@b": true, "q@c": true, "p@c": false, "q@a": false, "q@b": false, "x@a": false, "a@a": false, "r@a": false, "s@a": false, "p@x": false, "p@p": false, "p@q": false,
		"p@a&&q@c": true, "p@a&&q@a": false, "q@a||p@a": false, "!p@b": true,
	} {
		l := parsed(t, text)
		if expr.Known(m, l) != want {
			t.Errorf("8.2: Known of %q: %v", text, !want)
		}
		if empty := expr.Known(api.Model{}, l); empty != (text == "1") {
			t.Errorf("8.2: Known of %q, in no model: %v", text, empty)
		}
	}
	for _, l := range [][]api.Term{nil, {x, x}, {num(1000)}, {{Op: api.Var, Name: "x", N: 1}}, {op(api.Not)}} {
		if expr.Known(m, l) {
			t.Errorf("8.2: Known of %v", l)
		}
	}
	// Names that are no words are none, also where the model has them.
	wrong := api.Model{Vars: []api.Variable{{Name: "X"}, {}}, Procs: []api.Process{{Name: "P", Locs: []string{"A", ""}}, {Locs: []string{""}}}}
	for _, l := range [][]api.Term{{named("X")}, {op(api.Var)}, {place("P", "A")}, {op(api.At)}} {
		if expr.Known(wrong, l) {
			t.Errorf("8.2: Known of %v", l)
		}
	}
}

func TestSame(t *testing.T) {
	if !expr.Same(nil, nil) || !expr.Same(nil, []api.Term{}) || !expr.Same(make([]api.Term, 0, 3), nil) {
		t.Error("8.2: nothing is the same as nothing")
	}
	l := list(x, num(1), op(api.Add), place("p", "a"))
	if !expr.Same(l, l) || !expr.Same(l, slices.Clone(l)) {
		t.Error("8.2: the same")
	}
	for k := range l {
		if expr.Same(l, l[:k]) || expr.Same(l[:k], l) || k > 0 && expr.Same(l[k:], l) {
			t.Errorf("8.2: Same of unlike lengths: %d", k)
		}
		for what, turn := range []func(*api.Term){
			func(x *api.Term) { x.Op++ }, func(x *api.Term) { x.N++ }, func(x *api.Term) { x.Name += "x" }, func(x *api.Term) { x.Loc += "x" },
		} {
			other := slices.Clone(l)
			turn(&other[k])
			if expr.Same(l, other) || expr.Same(other, l) || !expr.Same(other, slices.Clone(other)) {
				t.Errorf("8.2: Same of lists that differ at %d in field %d", k, what)
			}
		}
	}
	if expr.Same(parsed(t, "x+y"), parsed(t, "y+x")) || !expr.Same(parsed(t, "((x)+ y)"), parsed(t, "x+y")) {
		t.Error("8.2: Same of what is parsed")
	}
}

func TestPrint(t *testing.T) {
	for text, want := range map[string]string{
		"0": "0", "000": "0", "099": "99", "( x )": "x", "p @ a": "p@a", "-(-(x))": "--x", "!(!(x))": "!!x", "-(!x)": "-!x", "!(-(7))": "!-7",
		"(x-y)-z": "x-y-z", "x-(y-z)": "x-(y-z)", "(x-y)+z": "x-y+z", "x+(y-z)": "x+(y-z)", "(x*y)*z": "x*y*z", "x*(y*z)": "x*(y*z)",
		"(x*y)+z": "x*y+z", "x*(y+z)": "x*(y+z)", "(x+y)*z": "(x+y)*z", "x+(y*z)": "x+y*z",
		"(x&&y)&&z": "x&&y&&z", "x&&(y&&z)": "x&&(y&&z)", "(x||y)&&z": "(x||y)&&z", "x||(y&&z)": "x||y&&z", "(x&&y)||z": "x&&y||z",
		"(x<y)<z": "(x<y)<z", "x<(y<z)": "x<(y<z)", "(x<y)==(y<z)": "(x<y)==(y<z)", "(x<y)+z": "(x<y)+z", "x<(y+z)": "x<y+z", "(x<y)&&(y<z)": "x<y&&y<z", "x<(y&&z)": "x<(y&&z)",
		"-(x*y)": "-(x*y)", "(-x)*y": "-x*y", "x*(-y)": "x*-y", "x-(-y)": "x--y", "x-(-(-1))": "x---1", "!(x<y)": "!(x<y)", "(!x)<y": "!x<y", "!(p@a)": "!p@a", "(p@a)*(q@b)": "p@a*q@b",
		"x!=(!y)": "x!=!y", "x==(!y)": "x==!y", "x<(-y)": "x<-y", "x>(-y)": "x>-y", "x&&(!y)": "x&&!y",
	} {
		if got := expr.Print(parsed(t, text)); got != want {
			t.Errorf("8.2: Print of %q: %q, not %q", text, got, want)
		}
	}
}

// printsWell asks that what is printed is parsed to the same, has no blank, and not one pair of brackets that may go.
func printsWell(t *testing.T, l []api.Term) {
	t.Helper()
	s := expr.Print(l)
	back, e, _ := expr.Parse(s)
	if !expr.Right(l) || e != api.OK || !slices.Equal(back, l) || strings.ContainsAny(s, " \t\n") {
		t.Errorf("W6: %v: %q, %v", l, s, back)
	}
	var opened []int
	for k := range len(s) {
		switch s[k] {
		case '(':
			opened = append(opened, k)
		case ')':
			from := opened[len(opened)-1]
			opened = opened[:len(opened)-1]
			if bare, _, _ := expr.Parse(s[:from] + s[from+1:k] + s[k+1:]); slices.Equal(bare, l) {
				t.Errorf("8.2: %v: %q has brackets at %d that may go", l, s, from)
			}
		}
	}
}

// Every expression of few terms, there and back.
func TestPrintAllSmall(t *testing.T) {
	for n := 1; n <= 5; n++ {
		for _, l := range trees(n, list(x, num(7), place("p", "a")), allOnes, allTwos) {
			printsWell(t, l)
		}
	}
	for n := 6; n <= 7; n++ {
		for _, l := range trees(n, list(x), []int{api.Neg}, []int{api.Mul, api.Sub, api.Lt, api.Eq, api.And, api.Or}) {
			printsWell(t, l)
		}
	}
}

func TestPrintMixed(t *testing.T) {
	r := rand.New(rand.NewSource(82))
	leaves := list(x, num(0), num(999), place("p", "a"), named("abcdefgh"), place("abcdefgh", "_2345678"))
	for n := 1; n <= api.MaxTerms; n++ {
		for range 50 {
			printsWell(t, randomTree(r, n, leaves))
		}
	}
}
