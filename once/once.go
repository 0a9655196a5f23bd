// Package once: what is made at the first asking: see DOC.md, chapter 1.
package once

import (
	"strings"
	"sync"
	"sync/atomic"
)

// Cell holds one value, that is made at the first Get. Many goroutines may use it at once.
type Cell struct {
	first sync.Once
	make  func() int
	value int
	// ended is apart from first, which can't be asked whether it is done.
	ended atomic.Bool
}

// New answers a cell whose value is what make will answer; that of a nil make is 0.
func New(make func() int) *Cell {
	return &Cell{make: make}
}

// Get tells the value; the first one makes it, and whoever asks meanwhile waits.
func (c *Cell) Get() int {
	if c == nil {
		return 0
	}
	c.first.Do(c.fill)
	c.ended.Store(true)
	return c.value
}

// Made tells if a Get has ended; it never waits, so that a make may ask it too.
func (c *Cell) Made() bool {
	return c != nil && c.ended.Load()
}

func (c *Cell) fill() {
	asked := c.make
	// What the function holds on to is not needed behind its one call.
	c.make = nil
	c.value = call(asked)
}

// call answers 0 for a make that panics: no Get may, and a value is made once, also this one.
func call(make func() int) (value int) {
	if make == nil {
		return 0
	}
	defer func() { _ = recover() }()
	return make()
}

// Table has a cell for each key. Many goroutines may use it at once.
type Table struct {
	lock  sync.Mutex
	cells map[string]*Cell
}

// NewTable answers a table without cells.
func NewTable() *Table {
	return &Table{}
}

// Get tells the value of the key's cell, made by the make of the first Get of that key.
func (t *Table) Get(key string, make func() int) int {
	if t == nil {
		return 0
	}
	// The lock is free while the value is made, so that a make may use the table.
	return t.claim(key, make).Get()
}

// Made tells if a Get of the key's cell has ended.
func (t *Table) Made(key string) bool {
	if t == nil {
		return false
	}
	t.lock.Lock()
	defer t.lock.Unlock()
	return t.cells[key].Made()
}

// Count tells how many keys have a cell; one whose value is being made has.
func (t *Table) Count() int {
	if t == nil {
		return 0
	}
	t.lock.Lock()
	defer t.lock.Unlock()
	return len(t.cells)
}

// Drop takes the key's cell away; who waits for that cell's value still gets it.
func (t *Table) Drop(key string) {
	if t == nil {
		return
	}
	t.lock.Lock()
	defer t.lock.Unlock()
	delete(t.cells, key)
}

// claim answers the key's cell; a new one holds the make of who came first, whoever calls it then.
func (t *Table) claim(key string, make func() int) *Cell {
	t.lock.Lock()
	defer t.lock.Unlock()
	if cell, ok := t.cells[key]; ok {
		return cell
	}
	if t.cells == nil {
		t.cells = map[string]*Cell{}
	}
	cell := New(make)
	// A copy: the key may be a piece of a long text, which would be kept with it.
	t.cells[strings.Clone(key)] = cell
	return cell
}
