package count

import (
	"math"
	"slices"
	"sync"
	"testing"
)

// bound is the document's 2^62, written out, so that the package's own one is held against it.
const bound = 1 << 62

// together runs work for 0 to n-1 in goroutines that begin at one time, and waits for them.
func together(n int, work func(i int)) {
	begin := make(chan struct{})
	var all sync.WaitGroup
	for i := range n {
		all.Add(1)
		go func() {
			defer all.Done()
			<-begin
			work(i)
		}()
	}
	close(begin)
	all.Wait()
}

// The chapter's example: NewBudget(3): Take(2), Take(2), Left.
func TestExampleBudgetOfThree(t *testing.T) {
	b := NewBudget(3)
	if first, again, left := b.Take(2), b.Take(2), b.Left(); !first || again || left != 1 {
		t.Errorf("Take(2), Take(2), Left: %t, %t, %d", first, again, left)
	}
}

func TestCounterBeginsAtZero(t *testing.T) {
	var c Counter
	if c.Load() != 0 || new(Counter).Load() != 0 {
		t.Errorf("a new Counter is %d", c.Load())
	}
	if got := c.Add(0); got != 0 || c.Load() != 0 {
		t.Errorf("Add(0): %d, Load: %d", got, c.Load())
	}
}

func TestCounterAdd(t *testing.T) {
	steps := func(s ...[2]int) [][2]int { return s }
	// Each step is what is added and what the counter is then.
	for name, run := range map[string][][2]int{
		"above 0":           steps([2]int{1, 1}, [2]int{2, 3}, [2]int{1 << 40, 1<<40 + 3}),
		"of 0":              steps([2]int{7, 7}, [2]int{0, 7}, [2]int{0, 7}),
		"below 0":           steps([2]int{-1, 0}, [2]int{math.MinInt, 0}, [2]int{5, 5}, [2]int{-1, 5}, [2]int{-6, 5}, [2]int{math.MinInt, 5}, [2]int{1, 6}),
		"just the bound":    steps([2]int{bound, bound}, [2]int{0, bound}, [2]int{-1, bound}),
		"one less":          steps([2]int{bound - 1, bound - 1}, [2]int{0, bound - 1}, [2]int{1, bound}, [2]int{1, bound}),
		"beyond, at once":   steps([2]int{bound + 1, bound}, [2]int{1, bound}),
		"beyond, by two":    steps([2]int{bound - 1, bound - 1}, [2]int{2, bound}, [2]int{-2, bound}),
		"the greatest":      steps([2]int{math.MaxInt, bound}, [2]int{math.MaxInt, bound}, [2]int{math.MinInt, bound}),
		"no wrapping round": steps([2]int{bound - 1, bound - 1}, [2]int{math.MaxInt, bound}, [2]int{math.MaxInt, bound}),
		"the halves":        steps([2]int{bound / 2, bound / 2}, [2]int{bound / 2, bound}, [2]int{bound / 2, bound}),
	} {
		var c Counter
		for k, s := range run {
			if got := c.Add(s[0]); got != s[1] || c.Load() != s[1] || c.Load() != s[1] {
				t.Errorf("%s, step %d: Add(%d): %d, Load: %d, must be %d", name, k, s[0], got, c.Load(), s[1])
			}
		}
	}
}

func TestPeakBeginsAtZero(t *testing.T) {
	var p Peak
	if p.Load() != 0 || new(Peak).Load() != 0 {
		t.Errorf("a new Peak is %d", p.Load())
	}
	for _, n := range []int{0, -1, math.MinInt, 0} {
		if p.Note(n) || p.Load() != 0 {
			t.Errorf("Note(%d) of a new Peak was greater; it is %d", n, p.Load())
		}
	}
	if !p.Note(1) || p.Load() != 1 {
		t.Errorf("Note(1) of a Peak of 0: it is %d", p.Load())
	}
}

func TestPeakNote(t *testing.T) {
	var p Peak
	for k, s := range []struct {
		n       int
		greater bool
		top     int
	}{
		{3, true, 3},
		{3, false, 3},
		{2, false, 3},
		{0, false, 3},
		{-4, false, 3},
		{math.MinInt, false, 3},
		{4, true, 4},
		{3, false, 4},
		{bound, true, bound},
		// A Peak has no bound: 2^62 is one of Counter and Budget.
		{bound + 1, true, bound + 1},
		{bound, false, bound + 1},
		{math.MaxInt, true, math.MaxInt},
		{math.MaxInt, false, math.MaxInt},
		{math.MinInt, false, math.MaxInt},
	} {
		if got := p.Note(s.n); got != s.greater || p.Load() != s.top || p.Load() != s.top {
			t.Errorf("step %d: Note(%d): %t, Load: %d, must be %t, %d", k, s.n, got, p.Load(), s.greater, s.top)
		}
	}
}

func TestNewBudget(t *testing.T) {
	for _, s := range [][2]int{
		{0, 0}, {-1, 0}, {math.MinInt, 0},
		{1, 1}, {1000, 1000},
		{bound - 1, bound - 1}, {bound, bound}, {bound + 1, bound}, {math.MaxInt, bound},
	} {
		b := NewBudget(s[0])
		if b == nil {
			t.Fatalf("NewBudget(%d) is nil", s[0])
		}
		if b.Left() != s[1] || b.Left() != s[1] {
			t.Errorf("NewBudget(%d): %d is left, must be %d", s[0], b.Left(), s[1])
		}
		if b.Give(1); b.Left() != s[1] {
			t.Errorf("NewBudget(%d), Give(1): %d is left, must be %d", s[0], b.Left(), s[1])
		}
		if b.Take(s[1]+1) || b.Left() != s[1] {
			t.Errorf("NewBudget(%d) gave one more than it had; %d is left", s[0], b.Left())
		}
		if !b.Take(s[1]) || b.Left() != 0 {
			t.Errorf("NewBudget(%d) did not give all it had; %d is left", s[0], b.Left())
		}
		if b.Give(math.MaxInt); b.Left() != s[1] {
			t.Errorf("NewBudget(%d), all given back: %d is left, must be %d", s[0], b.Left(), s[1])
		}
	}
}

func TestBudgetTake(t *testing.T) {
	b := NewBudget(5)
	for k, s := range []struct {
		n     int
		taken bool
		left  int
	}{
		{-1, false, 5},
		{math.MinInt, false, 5},
		{0, true, 5},
		{6, false, 5},
		{math.MaxInt, false, 5},
		{2, true, 3},
		{4, false, 3},
		{-3, false, 3},
		{3, true, 0},
		{1, false, 0},
		{0, true, 0},
		{-1, false, 0},
		{math.MaxInt, false, 0},
		{math.MinInt, false, 0},
	} {
		if got := b.Take(s.n); got != s.taken || b.Left() != s.left {
			t.Errorf("step %d: Take(%d): %t, Left: %d, must be %t, %d", k, s.n, got, b.Left(), s.taken, s.left)
		}
	}
}

func TestBudgetGive(t *testing.T) {
	b := NewBudget(10)
	b.Take(9)
	for k, s := range [][2]int{
		{-1, 1}, {math.MinInt, 1}, {0, 1}, {2, 3}, {-2, 3}, {7, 10}, {1, 10}, {0, 10}, {math.MaxInt, 10}, {math.MinInt, 10},
	} {
		if b.Give(s[0]); b.Left() != s[1] {
			t.Errorf("step %d: Give(%d): %d is left, must be %d", k, s[0], b.Left(), s[1])
		}
	}
	for _, n := range []int{4, 5, 6, bound, bound + 1, math.MaxInt} {
		b.Take(4)
		if b.Give(n); b.Left() != 10 {
			t.Errorf("Give(%d) of a budget that lacks 4: %d is left, must be 10", n, b.Left())
		}
	}
	if b.Take(11) {
		t.Error("what was given beyond the beginning could be taken")
	}
}

// What is given back may be taken again, and just that.
func TestBudgetGivenIsTakenAgain(t *testing.T) {
	b := NewBudget(4)
	b.Take(4)
	b.Give(3)
	if b.Take(4) || !b.Take(3) || b.Take(1) || b.Left() != 0 {
		t.Errorf("of 3 given back; %d is left", b.Left())
	}
}

func TestGreatestBudgetDoesNotWrapRound(t *testing.T) {
	b := NewBudget(math.MaxInt)
	if !b.Take(1) || b.Left() != bound-1 {
		t.Errorf("Take(1): %d is left", b.Left())
	}
	if b.Take(bound) || b.Left() != bound-1 {
		t.Errorf("Take of one more than is left; %d is left", b.Left())
	}
	if b.Give(math.MaxInt); b.Left() != bound {
		t.Errorf("Give of the greatest number: %d is left", b.Left())
	}
}

func TestFlag(t *testing.T) {
	var f Flag
	if f.Raised() || f.Raised() || new(Flag).Raised() {
		t.Error("a new Flag is raised")
	}
	if !f.Raise() {
		t.Error("the first Raise did not find it unraised")
	}
	for range 3 {
		if !f.Raised() || f.Raise() || !f.Raised() {
			t.Error("a raised Flag did not stay so, or could be raised again")
		}
	}
}

// R1: nil objects have no answer, and nothing panics.
func TestNilObjects(t *testing.T) {
	var c *Counter
	var p *Peak
	var b *Budget
	var f *Flag
	for _, n := range []int{math.MinInt, -1, 0, 1, math.MaxInt} {
		if got := c.Add(n); got != 0 {
			t.Errorf("Add(%d) of a nil Counter: %d", n, got)
		}
		if p.Note(n) {
			t.Errorf("Note(%d) of a nil Peak: true", n)
		}
		if b.Take(n) {
			t.Errorf("Take(%d) of a nil Budget: true", n)
		}
		b.Give(n)
	}
	if c.Load() != 0 || p.Load() != 0 || b.Left() != 0 {
		t.Errorf("nil ones tell %d, %d, %d", c.Load(), p.Load(), b.Left())
	}
	if f.Raised() || f.Raise() || f.Raised() {
		t.Error("a nil Flag was raised")
	}
}

// R1: a Budget that no call made has nothing to give, and does not panic.
func TestZeroBudgetIsEmpty(t *testing.T) {
	var b Budget
	if b.Give(3); b.Left() != 0 || b.Take(1) || !b.Take(0) {
		t.Errorf("the zero Budget: %d is left", b.Left())
	}
}

// R7: objects know nothing of one another.
func TestObjectsAreApart(t *testing.T) {
	var c, d Counter
	var p, q Peak
	var f, g Flag
	a, b := NewBudget(3), NewBudget(3)
	c.Add(4)
	p.Note(5)
	f.Raise()
	a.Take(2)
	if d.Load() != 0 || q.Load() != 0 || g.Raised() || b.Left() != 3 {
		t.Errorf("others were turned: %d, %d, %t, %d", d.Load(), q.Load(), g.Raised(), b.Left())
	}
}

func TestManyAdd(t *testing.T) {
	const many, each = 32, 500
	var c Counter
	var told [many][]int
	together(many, func(i int) {
		for k := range each {
			told[i] = append(told[i], c.Add(1))
			c.Add(-k)
		}
	})
	if c.Load() != many*each {
		t.Errorf("%d were added, it is %d", many*each, c.Load())
	}
	// Each Add of 1 tells what it alone made of it: all the numbers up to the sum, each once.
	all := slices.Concat(told[:]...)
	slices.Sort(all)
	for k, n := range all {
		if n != k+1 {
			t.Fatalf("what the Adds told: %d in place %d", n, k)
		}
	}
	for i := range told {
		if !slices.IsSorted(told[i]) {
			t.Errorf("goroutine %d saw it fall", i)
		}
	}
}

func TestManyAddUpToMost(t *testing.T) {
	const many, each = 16, 200
	var c Counter
	c.Add(bound - many*each/2)
	var below Counter
	together(many, func(int) {
		for range each {
			got := c.Add(1)
			if got > bound || got <= 0 {
				t.Errorf("Add told %d", got)
			}
			if got < bound {
				below.Add(1)
			}
			if l := c.Load(); l > bound || l <= 0 {
				t.Errorf("Load told %d", l)
			}
		}
	})
	if c.Load() != bound || below.Load() != many*each/2-1 {
		t.Errorf("it is %d behind %d below the bound", c.Load(), below.Load())
	}
}

func TestManyNote(t *testing.T) {
	const many, each = 32, 500
	var p Peak
	var greater [many][]int
	together(many, func(i int) {
		for k := range each {
			// Each number is noted by two of them, so that both must not be told that it is new.
			n := k*many/2 + i/2 + 1
			if p.Note(n) {
				greater[i] = append(greater[i], n)
			}
			if p.Load() < n {
				t.Errorf("%d was noted, it is %d", n, p.Load())
			}
		}
	})
	if p.Load() != each*many/2 {
		t.Errorf("it is %d, must be %d", p.Load(), each*many/2)
	}
	all := slices.Concat(greater[:]...)
	slices.Sort(all)
	if len(all) == 0 || all[len(all)-1] != p.Load() {
		t.Error("nobody was told of the greatest")
	}
	if len(slices.Compact(slices.Clone(all))) != len(all) {
		t.Error("one number was new to two")
	}
}

func TestManyTake(t *testing.T) {
	const many, each, begin = 32, 500, 7001
	b := NewBudget(begin)
	var taken Counter
	together(many, func(i int) {
		for k := range each {
			n := (i+k)%3 + 1
			if b.Take(n) {
				taken.Add(n)
			}
			if l := b.Left(); l < 0 || l > begin {
				t.Errorf("%d is left", l)
			}
		}
	})
	// The calls ask for more than there is, and ones of 1 are among each three.
	if taken.Load() != begin || b.Left() != 0 {
		t.Errorf("%d of %d were taken, %d is left", taken.Load(), begin, b.Left())
	}
}

func TestManyTakeAndGive(t *testing.T) {
	const many, each, begin = 32, 500, 10
	b := NewBudget(begin)
	var held, got Counter
	var lock sync.Mutex
	out := 0
	together(many, func(i int) {
		for k := range each {
			n := (i+k)%4 + 1
			if !b.Take(n) {
				continue
			}
			got.Add(1)
			lock.Lock()
			if out += n; out > begin {
				held.Add(1)
			}
			lock.Unlock()
			lock.Lock()
			out -= n
			lock.Unlock()
			b.Give(n)
		}
	})
	if held.Load() != 0 {
		t.Errorf("more than %d were out, %d times", begin, held.Load())
	}
	if b.Left() != begin || got.Load() == 0 {
		t.Errorf("all was given back, %d is left", b.Left())
	}
}

func TestManyGiveToAFullOne(t *testing.T) {
	b := NewBudget(50)
	b.Take(50)
	together(32, func(int) {
		for range 100 {
			b.Give(7)
			if l := b.Left(); l < 0 || l > 50 {
				t.Errorf("%d is left of 50", l)
			}
		}
	})
	if b.Left() != 50 {
		t.Errorf("%d is left, must be 50", b.Left())
	}
}

func TestManyRaise(t *testing.T) {
	const many, flags = 16, 20000
	var up [flags]Flag
	var first [flags]Counter
	// All go through the same flags side by side, so that they often meet at one.
	together(many, func(int) {
		for k := range flags {
			if up[k].Raise() {
				first[k].Add(1)
			}
			if !up[k].Raised() || up[k].Raise() {
				t.Errorf("flag %d was raised, and is not", k)
			}
		}
	})
	for k := range flags {
		if n := first[k].Load(); n != 1 {
			t.Fatalf("%d were told that they raised flag %d", n, k)
		}
	}
}
