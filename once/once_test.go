package once

import (
	"runtime"
	"strconv"
	"strings"
	"sync"
	"sync/atomic"
	"testing"
	"unsafe"
)

// tally answers a make that tells n, and the count of its calls.
func tally(n int) (func() int, *int) {
	calls := 0
	return func() int { calls++; return n }, &calls
}

// never answers a make that must not be called.
func never(t *testing.T) func() int {
	return func() int {
		t.Error("a make was called that may not be")
		return -1
	}
}

// together runs work for 0 to n-1 in goroutines that begin at one time, and waits for them.
func together(n int, work func(i int)) {
	begin := make(chan struct{})
	var all sync.WaitGroup
	for i := range n {
		all.Add(1)
		go func() {
			defer all.Done()
			<-begin
			work(i)
		}()
	}
	close(begin)
	all.Wait()
}

// The chapter's example: Get twice, one call of make.
func TestExampleGetTwice(t *testing.T) {
	make, calls := tally(5)
	c := New(make)
	if a, b := c.Get(), c.Get(); a != 5 || b != 5 || *calls != 1 {
		t.Errorf("Get twice: %d, %d, %d calls", a, b, *calls)
	}
}

func TestCellMakesAtTheFirstGet(t *testing.T) {
	for _, want := range []int{0, 1, -1, 1<<63 - 1, -1 << 63} {
		make, calls := tally(want)
		c := New(make)
		if c.Made() || c.Made() || *calls != 0 {
			t.Errorf("%d: made ahead of a Get", want)
		}
		for range 4 {
			if got := c.Get(); got != want || *calls != 1 {
				t.Errorf("Get: %d, must be %d; %d calls", got, want, *calls)
			}
			if !c.Made() {
				t.Errorf("%d: not Made behind a Get", want)
			}
		}
	}
}

func TestCellKeepsTheFirstAnswer(t *testing.T) {
	next := 0
	c := New(func() int { next++; return next })
	for range 3 {
		if got := c.Get(); got != 1 {
			t.Errorf("Get: %d, must be 1", got)
		}
	}
}

func TestCellOfNilMakeTellsZero(t *testing.T) {
	c := New(nil)
	if c.Made() {
		t.Error("made ahead of a Get")
	}
	for range 2 {
		if got := c.Get(); got != 0 || !c.Made() {
			t.Errorf("Get: %d, Made: %v", got, c.Made())
		}
	}
}

func TestCellIsNotMadeInsideItsMake(t *testing.T) {
	var c *Cell
	inside := true
	c = New(func() int { inside = c.Made(); return 3 })
	if c.Get() != 3 || inside || !c.Made() {
		t.Error("Made is told while the one Get goes on")
	}
}

func TestCellsKnowNothingOfOneAnother(t *testing.T) {
	shared, calls := tally(8)
	a, b := New(shared), New(shared)
	if a.Get() != 8 || b.Made() || *calls != 1 {
		t.Error("one cell's Get touched the other")
	}
	if b.Get() != 8 || *calls != 2 {
		t.Error("the second cell did not call its make")
	}
}

func TestCellMakeMayGetAnotherCell(t *testing.T) {
	inner, calls := tally(20)
	a := New(inner)
	b := New(func() int { return a.Get() + 1 })
	if b.Get() != 21 || a.Get() != 20 || *calls != 1 || !a.Made() {
		t.Error("a make that Gets another cell")
	}
}

// A panic of make is caught: its value is 0, and it is not made again.
func TestCellOfPanickingMake(t *testing.T) {
	for _, thrown := range []any{"no", 7, nil} {
		calls := 0
		c := New(func() int { calls++; panic(thrown) })
		for range 3 {
			if got := c.Get(); got != 0 || calls != 1 || !c.Made() {
				t.Errorf("panic(%v): Get: %d, %d calls, Made: %v", thrown, got, calls, c.Made())
			}
		}
	}
}

// A make whose goroutine ends in it leaves nobody waiting.
func TestCellOfMakeThatLeavesItsGoroutine(t *testing.T) {
	calls := 0
	c := New(func() int { calls++; runtime.Goexit(); return 1 })
	together(1, func(int) { c.Get() })
	if c.Made() {
		t.Error("no Get has ended yet")
	}
	if got := c.Get(); got != 0 || calls != 1 || !c.Made() {
		t.Errorf("Get: %d, %d calls, Made: %v", got, calls, c.Made())
	}
}

func TestCellLetsItsMakeGo(t *testing.T) {
	c := New(func() int { return 1 })
	c.Get()
	if c.make != nil {
		t.Error("make is kept behind its one call")
	}
}

func TestNilAndZeroCells(t *testing.T) {
	var none *Cell
	if none.Made() || none.Get() != 0 || none.Made() {
		t.Error("a nil cell answered")
	}
	var zero Cell
	if zero.Made() || zero.Get() != 0 {
		t.Error("a cell that New did not make")
	}
}

func TestTableUsesTheFirstMakeOfAKey(t *testing.T) {
	x := NewTable()
	for i, key := range []string{"a", "", "A", "a ", "\x00", "\xff\xfe", "ä", strings.Repeat("long", 5000)} {
		make, calls := tally(i + 1)
		if x.Made(key) || x.Count() != i {
			t.Errorf("key %d: there ahead of its Get", i)
		}
		if got := x.Get(key, make); got != i+1 || *calls != 1 || !x.Made(key) || x.Count() != i+1 {
			t.Errorf("key %d: Get: %d, %d calls, %d keys", i, got, *calls, x.Count())
		}
		if got := x.Get(key, never(t)); got != i+1 {
			t.Errorf("key %d: a later Get: %d", i, got)
		}
		if got := x.Get(key, make); got != i+1 || *calls != 1 {
			t.Errorf("key %d: the same make again: %d, %d calls", i, got, *calls)
		}
		if got := x.Get(key, nil); got != i+1 {
			t.Errorf("key %d: a later Get with nil: %d", i, got)
		}
	}
}

func TestTableOfNilMakeTellsZero(t *testing.T) {
	x := NewTable()
	if x.Get("a", nil) != 0 || !x.Made("a") || x.Count() != 1 || x.Get("a", never(t)) != 0 {
		t.Error("a nil make is the key's first one")
	}
}

func TestTableAskingMakesNoCell(t *testing.T) {
	x := NewTable()
	x.Made("a")
	x.Drop("b")
	if x.Count() != 0 || x.Made("a") || x.Made("b") {
		t.Error("Made or Drop made a cell")
	}
}

func TestTableDrop(t *testing.T) {
	x := NewTable()
	x.Drop("a")
	x.Get("a", func() int { return 1 })
	x.Get("b", func() int { return 2 })
	x.Drop("c")
	if x.Count() != 2 || !x.Made("a") || !x.Made("b") {
		t.Error("Drop of a key without a cell turned something")
	}
	x.Drop("a")
	x.Drop("a")
	if x.Count() != 1 || x.Made("a") || !x.Made("b") || x.Get("b", never(t)) != 2 {
		t.Error("Drop must take that one key's cell alone")
	}
	make, calls := tally(3)
	if x.Get("a", make) != 3 || *calls != 1 || x.Get("a", never(t)) != 3 || x.Count() != 2 || !x.Made("a") {
		t.Error("a Get behind a Drop makes a cell anew")
	}
}

func TestTableMakeMayGetOtherKeys(t *testing.T) {
	x := NewTable()
	calls := 0
	var sum func(n int) int
	sum = func(n int) int {
		return x.Get(strconv.Itoa(n), func() int {
			calls++
			if n == 0 {
				return 0
			}
			return sum(n-1) + n
		})
	}
	const depth = 1 << 16
	if got := sum(depth); got != depth*(depth+1)/2 || calls != depth+1 || x.Count() != depth+1 {
		t.Errorf("%d, %d calls, %d keys", got, calls, x.Count())
	}
}

func TestTableMayBeAskedInsideAMake(t *testing.T) {
	x := NewTable()
	x.Get("old", nil)
	got := x.Get("a", func() int {
		if x.Made("a") || !x.Made("old") || x.Made("b") || x.Count() != 2 {
			t.Error("what a make is told of its table")
		}
		x.Drop("old")
		return x.Get("b", func() int { return 4 }) + 1
	})
	if got != 5 || !x.Made("a") || !x.Made("b") || x.Made("old") || x.Count() != 2 {
		t.Errorf("Get: %d, %d keys", got, x.Count())
	}
}

// A key that is dropped while its value is made is gone, and who asked for it gets the value.
func TestTableDropInsideItsMake(t *testing.T) {
	x := NewTable()
	got := x.Get("a", func() int {
		x.Drop("a")
		return 10*x.Get("a", func() int { return 2 }) + 1
	})
	if got != 21 || x.Get("a", never(t)) != 2 || x.Count() != 1 {
		t.Errorf("Get: %d, %d keys", got, x.Count())
	}
}

func TestTableOfPanickingMake(t *testing.T) {
	x := NewTable()
	calls := 0
	bad := func() int { calls++; panic("no") }
	if x.Get("a", bad) != 0 || x.Get("a", bad) != 0 || x.Get("a", never(t)) != 0 || calls != 1 {
		t.Errorf("%d calls", calls)
	}
	if !x.Made("a") || x.Count() != 1 || x.Get("b", func() int { return 6 }) != 6 {
		t.Error("a table behind a panic")
	}
	x.Drop("a")
	if x.Get("a", func() int { return 7 }) != 7 {
		t.Error("a key that is made anew behind a panic")
	}
}

func TestTableKeepsNoKeyThatIsHandedIn(t *testing.T) {
	x := NewTable()
	room := []byte("key")
	x.Get(unsafe.String(&room[0], len(room)), func() int { return 1 })
	room[0] = 'h'
	if !x.Made("key") || x.Made("hey") || x.Get("key", never(t)) != 1 || string(room) != "hey" {
		t.Error("the table shares its key's memory")
	}
}

func TestTablesKnowNothingOfOneAnother(t *testing.T) {
	a, b := NewTable(), NewTable()
	a.Get("k", func() int { return 1 })
	if b.Count() != 0 || b.Made("k") || b.Get("k", func() int { return 2 }) != 2 {
		t.Error("one table's Get touched the other")
	}
	a.Drop("k")
	if !b.Made("k") || b.Get("k", never(t)) != 2 {
		t.Error("one table's Drop touched the other")
	}
}

func TestNilAndZeroTables(t *testing.T) {
	var none *Table
	none.Drop("a")
	if none.Get("a", never(t)) != 0 || none.Get("", nil) != 0 || none.Made("a") || none.Count() != 0 {
		t.Error("a nil table answered")
	}
	var zero Table
	zero.Drop("a")
	if zero.Count() != 0 || zero.Made("a") || zero.Get("a", func() int { return 4 }) != 4 {
		t.Error("a table that NewTable did not make")
	}
}

const many = 64

func TestManyOnACell(t *testing.T) {
	for range 50 {
		var calls atomic.Int64
		c := New(func() int { runtime.Gosched(); return int(calls.Add(1)) + 40 })
		together(many, func(i int) {
			if i%4 == 0 && c.Made() && c.Get() != 41 {
				t.Error("Made, but not so")
			}
			if got := c.Get(); got != 41 || !c.Made() {
				t.Errorf("asker %d: Get: %d", i, got)
			}
		})
		if calls.Load() != 1 {
			t.Errorf("%d calls", calls.Load())
		}
	}
}

func TestManyOnATable(t *testing.T) {
	const keys = 9
	for range 50 {
		x := NewTable()
		var calls [keys]atomic.Int64
		together(many, func(i int) {
			for k := range keys {
				at := (k + i) % keys
				key := strconv.Itoa(at)
				got := x.Get(key, func() int {
					runtime.Gosched()
					calls[at].Add(1)
					return 100 + at
				})
				if n := x.Count(); got != 100+at || !x.Made(key) || n < 1 || n > keys {
					t.Errorf("asker %d: key %d: Get: %d, %d keys", i, at, got, n)
				}
			}
		})
		for k := range keys {
			if n := calls[k].Load(); n != 1 {
				t.Errorf("key %d was made %d times", k, n)
			}
		}
		if x.Count() != keys {
			t.Errorf("%d keys", x.Count())
		}
	}
}

// askDuringMake lets askers come while the first one's make goes on; an answer ahead of its end is a fault.
func askDuringMake(t *testing.T, get func(make func() int) int, meanwhile func()) {
	var over atomic.Bool
	started, goOn := make(chan struct{}), make(chan struct{})
	var first, later, ready sync.WaitGroup
	first.Add(1)
	go func() {
		defer first.Done()
		got := get(func() int {
			close(started)
			<-goOn
			over.Store(true)
			return 77
		})
		if got != 77 {
			t.Errorf("the first asker: %d", got)
		}
	}()
	<-started
	for range many {
		later.Add(1)
		ready.Add(1)
		go func() {
			defer later.Done()
			ready.Done()
			if got := get(never(t)); got != 77 || !over.Load() {
				t.Errorf("a later asker: %d, over: %v", got, over.Load())
			}
		}()
	}
	ready.Wait()
	for range many {
		runtime.Gosched()
	}
	meanwhile()
	close(goOn)
	first.Wait()
	later.Wait()
}

func TestWhoeverAsksACellWaits(t *testing.T) {
	var c *Cell
	var set sync.Once
	get := func(make func() int) int {
		set.Do(func() { c = New(make) })
		return c.Get()
	}
	askDuringMake(t, get, func() {
		if c.Made() {
			t.Error("Made while the value is being made")
		}
	})
	if !c.Made() {
		t.Error("not Made behind all Gets")
	}
}

// While one key's value is made, the rest of the table is free.
func TestWhoeverAsksATableWaits(t *testing.T) {
	x := NewTable()
	get := func(make func() int) int { return x.Get("slow", make) }
	askDuringMake(t, get, func() {
		if x.Made("slow") || x.Count() != 1 {
			t.Error("Made while the value is being made")
		}
		if x.Get("quick", func() int { return 5 }) != 5 || !x.Made("quick") || x.Count() != 2 {
			t.Error("another key must not wait")
		}
		x.Drop("quick")
	})
	if !x.Made("slow") || x.Count() != 1 {
		t.Error("not Made behind all Gets")
	}
}

func TestManyGetAndDrop(t *testing.T) {
	x := NewTable()
	var calls atomic.Int64
	var drops atomic.Int64
	together(many, func(i int) {
		for range 50 {
			if i%8 == 0 {
				drops.Add(1)
				x.Drop("k")
				continue
			}
			if got := x.Get("k", func() int { calls.Add(1); return 3 }); got != 3 {
				t.Errorf("asker %d: Get: %d", i, got)
			}
		}
	})
	if n := calls.Load(); n < 1 || n > drops.Load()+1 {
		t.Errorf("%d calls with %d drops", n, drops.Load())
	}
}

func TestManyNestedGets(t *testing.T) {
	x := NewTable()
	var calls atomic.Int64
	var fib func(n int) int
	fib = func(n int) int {
		return x.Get(strconv.Itoa(n), func() int {
			calls.Add(1)
			if n < 2 {
				return n
			}
			return fib(n-1) + fib(n-2)
		})
	}
	together(many, func(i int) {
		if fib(30-i%7) < 46368 || fib(30) != 832040 {
			t.Errorf("asker %d", i)
		}
	})
	if calls.Load() != 31 || x.Count() != 31 {
		t.Errorf("%d calls, %d keys", calls.Load(), x.Count())
	}
}
