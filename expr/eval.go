package expr

import "lariat/api"

// Eval answers the value of an expression in a state of the model.
func Eval(m api.Model, s api.State, l []api.Term) int {
	if !Known(m, l) || len(s.Locs) != len(m.Procs) || len(s.Vals) != len(m.Vars) {
		return 0
	}
	return fold(l, func(t api.Term, of []int) int {
		switch len(of) {
		case 0:
			return ofNone(m, s, t)
		case 1:
			return ofOne(t.Op, of[0])
		}
		return ofTwo(t.Op, of[0], of[1])
	})
}

func ofNone(m api.Model, s api.State, t api.Term) int {
	switch t.Op {
	case api.Var:
		return bounded(s.Vals[variable(m, t.Name)])
	case api.At:
		k := process(m, t)
		return number(isAt(m.Procs[k], s.Locs[k], t.Loc))
	}
	return t.N
}

func ofOne(op, a int) int {
	if op == api.Not {
		return number(a == 0)
	}
	return -a
}

func ofTwo(op, a, b int) int {
	switch op {
	case api.Mul:
		return bounded(a * b)
	case api.Add:
		return bounded(a + b)
	case api.Sub:
		return bounded(a - b)
	}
	return number(holds(op, a, b))
}

// holds tells if a comparison, And or Or is true of two values.
func holds(op, a, b int) bool {
	switch op {
	case api.Lt:
		return a < b
	case api.Le:
		return a <= b
	case api.Gt:
		return a > b
	case api.Ge:
		return a >= b
	case api.Eq:
		return a == b
	case api.Ne:
		return a != b
	case api.And:
		return a != 0 && b != 0
	}
	return a != 0 || b != 0
}

// isAt tells if the place of a process that has the number at is the one of this name.
func isAt(p api.Process, at int, name string) bool {
	return 0 <= at && at < len(p.Locs) && p.Locs[at] == name
}

func bounded(n int) int {
	return min(max(n, -api.MaxValue), api.MaxValue)
}

func number(is bool) int {
	if is {
		return 1
	}
	return 0
}
