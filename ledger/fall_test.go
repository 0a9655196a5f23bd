package ledger

import (
	"slices"
	"strconv"
	"testing"

	"lariat/api"
	"lariat/drum"
)

// doing is a step of a run: a Write of entries, or, where there are none, a Settle or a Balance.
type doing struct {
	write   []Entry
	balance bool
}

func writes(pairs ...int) doing { return doing{write: entries(pairs...)} }
func settles() doing            { return doing{} }
func balances() doing           { return doing{balance: true} }

func (x doing) do(l *Ledger) api.Errno {
	if x.write != nil {
		return l.Write(x.write)
	}
	if x.balance {
		return l.Balance()
	}
	return l.Settle()
}

// went is how far a run came: the home tracks behind each number of its postings, and how many of these are sure.
type went struct {
	states [][][]byte
	sure   int
}

// goOn does steps up to the first that the drum breaks under.
func goOn(l *Ledger, home [][]byte, steps []doing) went {
	w := went{states: [][][]byte{home}}
	for _, x := range steps {
		blank := l.Blank()
		if x.do(l) != api.OK {
			return w
		}
		if x.write == nil {
			w.sure = len(w.states) - 1
			continue
		}
		if Leaves(len(x.write)) > blank {
			w.sure = len(w.states) - 1
		}
		w.states = append(w.states, behind(w.states[len(w.states)-1], x.write))
	}
	return w
}

// fallen is a drum ahead of a fall: its tracks if nothing of what is afloat comes through, and if all of it does.
type fallen struct {
	none, all [][]byte
	afloat    []int
}

// fallOf answers what may fall of the drum that make answers, always the same one.
func fallOf(t *testing.T, make func() *drum.Drum) fallen {
	t.Helper()
	none, all := make(), make()
	f := fallen{afloat: none.Afloat()}
	var keep []int
	for n, at := range f.afloat {
		keep = append(keep, n)
		if slices.Contains(f.afloat[:n], at) {
			t.Fatalf("laid twice ahead of a Settle: %v", f.afloat)
		}
	}
	none.Fall(nil, -1, 0)
	all.Fall(keep, -1, 0)
	f.none, f.all = tracks(t, none), tracks(t, all)
	return f
}

// left answers the tracks where the Lays whose bits are set come through, and of torn the first cut bytes.
func (f fallen) left(keep, torn, cut int) [][]byte {
	out := slices.Clone(f.none)
	for n, at := range f.afloat {
		if keep>>n&1 == 1 {
			out[at] = f.all[at]
		} else if n == torn {
			out[at] = slices.Concat(f.all[at][:cut], f.none[at][cut:])
		}
	}
	return out
}

// edges are the cuts at and beside which a leaf's or a cover's parts end.
var edges = []int{1, 3, 4, 6, 8, 11, 12, 14, 40, 76, 79, 80, 81, 82, 83, 84, 85, 90, 95}

// each calls visit with all that may be left: every choice of what is kept, and any other one torn at so many edges,
// which change from one choice to the next.
func (f fallen) each(cuts int, visit func(tracks [][]byte)) {
	turn := 0
	for keep := range 1 << len(f.afloat) {
		visit(f.left(keep, -1, 0))
		for torn := range f.afloat {
			if keep>>torn&1 == 1 {
				continue
			}
			for range cuts {
				visit(f.left(keep, torn, edges[turn%len(edges)]))
				turn++
			}
		}
	}
}

// falls asks the theorem of drums; what was asked of the same tracks once is not asked again.
type falls struct {
	t    *testing.T
	told map[string][][]byte
	deep map[string]int
}

func key(tracks [][]byte) string {
	return string(slices.Concat(tracks...))
}

// openedHome answers what is home where these tracks are opened: the same, opened again.
func (f *falls) openedHome(tracks [][]byte) [][]byte {
	f.t.Helper()
	k := key(tracks)
	if home, ok := f.told[k]; ok {
		return home
	}
	d := laidOut(f.t, tracks)
	home := homes(f.t, opened(f.t, d))
	if !same(homes(f.t, opened(f.t, d)), home) {
		f.t.Fatalf("opened again it is another: %x", tracks)
	}
	f.told[k] = home
	return home
}

// again asks that the tracks are opened with the same home tracks, however often it falls as it opens.
func (f *falls) again(tracks [][]byte, depth int) {
	f.t.Helper()
	k := key(tracks)
	if depth == 0 || f.deep[k] >= depth {
		return
	}
	f.deep[k] = depth
	home := f.openedHome(tracks)
	for after := 0; ; after++ {
		whole := false
		x := fallOf(f.t, func() *drum.Drum {
			d := laidOut(f.t, tracks)
			d.Break(after)
			l, e := Open(d)
			if e != api.ErrDown && e != api.OK || (e == api.OK) != (l != nil) {
				f.t.Fatalf("Open: %d", e)
			}
			whole = e == api.OK
			return d
		})
		if whole {
			return
		}
		x.each(5, func(left [][]byte) {
			if got := f.openedHome(left); !same(got, home) {
				f.t.Fatalf("%d turns of Open: %x, not %x", after, got, home)
			}
			f.again(left, depth-1)
		})
	}
}

// runs are on a drum of 12 tracks with 6 leaves.
func runs() map[string][]doing {
	return map[string][]doing{
		"Writes, Settles, Balances": {
			writes(0, 1, 1, 1), settles(), writes(1, 2), writes(0, 3, 2, 3), balances(), writes(3, 4),
			writes(0, 5), writes(1, 6), settles(), writes(2, 7), writes(2, 8, 3, 8),
		},
		"one track again and again": {
			writes(2, 1), writes(2, 2), writes(2, 3), writes(2, 4), writes(2, 5), settles(), writes(2, 6), writes(2, 7), writes(2, 8),
		},
		"nothing is settled": {
			writes(0, 1, 3, 1), writes(0, 2), writes(1, 3, 3, 3),
		},
		"Balance behind each": {
			writes(0, 1), balances(), balances(), writes(0, 2, 2, 2, 1, 2), balances(), writes(3, 3), balances(),
		},
		"bytes that look like leaves": {
			{write: []Entry{{At: 0, B: leavesOf(3, 1, text(entries(0, 9)))[0]}, {At: 1, B: cover(3, 6)}}}, settles(),
			{write: []Entry{{At: 3, B: leavesOf(3, 1, text(entries(0, 9)))[1]}}}, writes(1, 2, 2, 2),
		},
	}
}

// 5.5, W2: the drum falls at each turn of a run, with every choice of what is kept, and any other Lay torn; and once
// more at each turn of the Open behind that.
func TestWhateverFalls(t *testing.T) {
	for name, steps := range runs() {
		f := &falls{t: t, told: map[string][][]byte{}, deep: map[string]int{}}
		seen := map[int]int{}
		for after := 0; ; after++ {
			var w went
			broke := false
			x := fallOf(t, func() *drum.Drum {
				d, l := made(t, 12, 6)
				d.Break(after)
				w = goOn(l, blanks(4), steps)
				broke = d.Broken()
				return d
			})
			x.each(len(edges), func(left [][]byte) {
				home := f.openedHome(left)
				at := slices.IndexFunc(w.states[w.sure:], func(s [][]byte) bool { return same(s, home) })
				if at < 0 {
					t.Fatalf("%s, %d turns: of %d postings, %d sure: %x", name, after, len(w.states)-1, w.sure, home)
				}
				seen[w.sure+at]++
				f.again(left, 1)
			})
			if !broke {
				break
			}
		}
		if len(seen) < 3 {
			t.Errorf("%s: only %v", name, seen)
		}
	}
}

// It falls as it opens, and falls again as it is opened behind that, and once more.
func TestFallsAsItOpens(t *testing.T) {
	f := &falls{t: t, told: map[string][][]byte{}, deep: map[string]int{}}
	d, l := made(t, 12, 6)
	must(t, "Write", l.Write(entries(0, 1, 2, 2)))
	must(t, "Balance", l.Balance())
	must(t, "Write", l.Write(entries(3, 3)))
	must(t, "Write", l.Write(entries(0, 4)))
	must(t, "Settle", l.Settle())
	f.again(tracks(t, d), 3)
	if home := f.openedHome(tracks(t, d)); !same(home, behind(blanks(4), entries(0, 4, 2, 2, 3, 3))) {
		t.Errorf("%x", home)
	}
	if len(f.told) < 50 {
		t.Errorf("only %d drums", len(f.told))
	}
}

// A posting that comes through whole is opened, though it was never settled; a Write under which the drum broke
// is none.
func TestPostingsBehindTheLastSettle(t *testing.T) {
	for after := range 9 {
		d, l := made(t, 12, 8)
		must(t, "Write", l.Write(entries(0, 1)))
		must(t, "Settle", l.Settle())
		d.Break(after)
		w := goOn(l, behind(blanks(2), entries(0, 1)), []doing{writes(1, 2), writes(0, 3), writes(1, 4)})
		d.Fall([]int{0, 1, 2, 3, 4, 5, 6, 7}, -1, 0)
		mustHold(t, strconv.Itoa(after), homes(t, opened(t, d)), w.states[len(w.states)-1])
	}
}

// dice is a source of numbers that is always the same.
type dice uint32

func (x *dice) below(n int) int {
	*x = *x*1664525 + 1013904223
	return int(uint64(*x>>3) * uint64(n) >> 29)
}

// someEntries picks up to most entries; now and then some that may not be.
func (x *dice) someEntries(home, most int) []Entry {
	var e []Entry
	for range 1 + x.below(most) {
		e = append(e, Entry{At: x.below(home), B: mixed(x.below(1 << 20))})
	}
	switch x.below(12) {
	case 0:
		e[x.below(len(e))].At = []int{-1, home, 1 << 40}[x.below(3)]
	case 1:
		e[x.below(len(e))].B = make([]byte, 97*x.below(2))
	}
	return e
}

// wrong tells what is wrong with entries, as told in the chapter.
func wrong(e []Entry, home, leaves int) api.Errno {
	for k, x := range e {
		for _, y := range e[:k] {
			if x.At == y.At {
				return api.ErrArg
			}
		}
		if x.At < 0 || x.At >= home || len(x.B) != 96 {
			return api.ErrArg
		}
	}
	if len(e) == 0 {
		return api.ErrArg
	}
	if (len(e)*98+2+63)/64 > leaves {
		return api.ErrBig
	}
	return api.OK
}

// Long runs of all calls on drums that break and fall, against a list of home tracks behind each posting.
func TestLongRuns(t *testing.T) {
	for seed := range 60 {
		x := dice(seed * 7919)
		leaves, home := 5+x.below(30), 2+x.below(12)
		d, l := made(t, max(10, 2+leaves+home), leaves)
		home = l.Home()
		states, falling := [][][]byte{blanks(home)}, 0
		for step := range 400 {
			last := states[len(states)-1]
			e := api.OK
			switch k := x.below(20); {
			case k < 10:
				w := x.someEntries(home, 1+x.below(8))
				blank := l.Blank()
				want := wrong(w, home, leaves)
				e = l.Write(w)
				if want != api.OK && e != want || want == api.OK && e != api.OK && e != api.ErrDown {
					t.Fatalf("seed %d, step %d: Write: %d, not %d", seed, step, e, want)
				}
				if e == api.OK {
					if Leaves(len(w)) > blank {
						states, blank = states[len(states)-1:], leaves
					}
					states = append(states, behind(last, w))
					if l.Blank() != blank-Leaves(len(w)) {
						t.Fatalf("seed %d, step %d: %d blank", seed, step, l.Blank())
					}
				}
			case k < 13:
				if e = l.Settle(); e == api.OK {
					states = states[len(states)-1:]
				}
			case k == 13:
				if e = l.Balance(); e == api.OK {
					states = states[len(states)-1:]
				}
			case k < 18:
				at := x.below(home)
				if b, e := l.Look(at); e != api.OK || string(b) != string(last[at]) {
					t.Fatalf("seed %d, step %d: Look(%d): %d, %x", seed, step, at, e, b)
				}
			case k == 18:
				d.Break(x.below(40))
			default:
				l, states = x.fallAndOpen(t, d, states)
				falling++
			}
			if e == api.ErrDown {
				mustBeLost(t, "broken", d, l)
				l, states = x.fallAndOpen(t, d, states)
				falling++
			}
		}
		if falling < 5 {
			t.Errorf("seed %d: it fell %d times", seed, falling)
		}
	}
}

// fallAndOpen lets the drum fall, at times once more as it is opened; what is opened must be one of the states.
func (x *dice) fallAndOpen(t *testing.T, d *drum.Drum, states [][][]byte) (*Ledger, [][][]byte) {
	t.Helper()
	for {
		var keep []int
		often := x.below(5)
		for n := range d.Afloat() {
			if x.below(4) < often {
				keep = append(keep, n)
			}
		}
		d.Fall(keep, x.below(8), x.below(api.Track+1))
		if x.below(3) == 0 {
			d.Break(x.below(12))
		}
		l, e := Open(d)
		if e == api.ErrDown {
			continue
		}
		must(t, "Open", e)
		home := homes(t, l)
		if !slices.ContainsFunc(states, func(s [][]byte) bool { return same(s, home) }) {
			t.Fatalf("none of %d states: %x", len(states), home)
		}
		return l, [][][]byte{home}
	}
}
