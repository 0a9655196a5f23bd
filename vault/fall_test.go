package vault_test

import (
	"maps"
	"slices"
	"strconv"
	"strings"
	"testing"

	"lariat/api"
	"lariat/drum"
	"lariat/vault"
)

// A run is calls, one behind the other: "pN:M" Puts M bytes in record N, "dN" Drops it, "k" Keeps, "u" Undoes, "s"
// Settles, "c" Closes. runs are on a vault of 16 tracks with 14 leaves, some of whose Keeps Balance first.
func runs() []string {
	return []string{
		"p1:81 k p2:80 k s d1 k p3:300 k p2:100 k",
		"p1:0 p2:0 p3:0 k d1 d2 k p2:5 k p2:6 k p2:7 k p2:8 k",
		"p1:400 k c p1:200 p2:200 k c d1 k p3:400 k s p3:10 d2 k c",
		"p40:560 k p40:561 k s p40:562 k s d40 k s p1:560 k",
		"p1:1 k u p2:1 u k p2:2 s k d1 u d2 k s p9:160 p8:160 k u p9:161 k c p9:160 k",
	}
}

// went is how far a run came: the records behind each Keep, and behind how many of them is the last Settle or Close.
type went struct {
	states []held
	sure   int
}

// goOn does the calls of a run up to the first that the drum breaks under.
func goOn(t *testing.T, v *vault.Vault, run string) went {
	t.Helper()
	w := went{states: []held{told(t, v)}}
	now := w.states[0]
	for seed, call := range strings.Fields(run) {
		e := api.OK
		switch call[0] {
		case 'p':
			id, n, _ := strings.Cut(call[1:], ":")
			b := mixed(number(t, n), seed)
			e, now = v.Put(number(t, id), b), now.with(number(t, id), b)
		case 'd':
			v.Drop(number(t, call[1:]))
			now = now.without(number(t, call[1:]))
		case 'u':
			v.Undo()
			now = w.states[len(w.states)-1]
		case 'k':
			if e = v.Keep(); e == api.OK {
				w.states = append(w.states, now)
			}
		case 's':
			if e = v.Settle(); e == api.OK {
				w.sure = len(w.states) - 1
			}
		case 'c':
			if e = v.Close(); e == api.OK {
				w.sure = len(w.states) - 1
			}
		}
		if e == api.ErrDown {
			return w
		}
		must(t, call, e)
	}
	return w
}

func number(t *testing.T, s string) int {
	t.Helper()
	n, err := strconv.Atoi(s)
	if err != nil {
		t.Fatal(err)
	}
	return n
}

// kept answers choices of the Lays that come through, of so many: all choices of a few; of many: none, all, each one
// alone, all but each one, all up to one and all from one on, every other one.
func kept(n int) [][]int {
	var out [][]int
	pick := func(is func(k int) bool) {
		var keep []int
		for k := range n {
			if is(k) {
				keep = append(keep, k)
			}
		}
		out = append(out, keep)
	}
	if n <= 5 {
		for bits := range 1 << n {
			pick(func(k int) bool { return bits>>k&1 == 1 })
		}
		return out
	}
	for x := range n {
		pick(func(k int) bool { return k == x })
		pick(func(k int) bool { return k != x })
		pick(func(k int) bool { return k < x })
		pick(func(k int) bool { return k >= x })
	}
	pick(func(int) bool { return false })
	pick(func(k int) bool { return k%2 == 0 })
	pick(func(k int) bool { return k%2 == 1 })
	return out
}

// cuts are where a torn track ends; those beside which a part of what is laid may end are among them.
var cuts = []int{48, 3, 80, 12, 95, 1, 84, 4, 60, 83, 8, 76, 90, 2, 14, 88, 5, 30, 72, 81}

// fall is one way to fall.
type fall struct {
	keep      []int
	torn, cut int
}

// waysToFall answers ways to fall of so many Lays that are afloat: each choice of what is kept with nothing torn, and
// with one other torn, and another one.
func waysToFall(n, turn int) []fall {
	var out []fall
	for _, keep := range kept(n) {
		out = append(out, fall{keep: keep, torn: -1})
		if len(keep) == n {
			continue
		}
		for range 2 {
			torn := turn % n
			for slices.Contains(keep, torn) {
				torn = (torn + 1) % n
			}
			out = append(out, fall{keep: keep, torn: torn, cut: cuts[turn%len(cuts)]})
			turn++
		}
	}
	return out
}

// 6.4, W2: the drum falls at each turn of a run.
func TestWhateverFalls(t *testing.T) {
	for _, run := range runs() {
		seen := map[int]int{}
		for after := 0; ; after++ {
			var w went
			broken := func() *drum.Drum {
				d, v := made(t, 16, 14)
				d.Break(after)
				w = goOn(t, v, run)
				return d
			}
			d := broken()
			for n, f := range waysToFall(len(d.Afloat()), after) {
				d := broken()
				d.Fall(f.keep, f.torn, f.cut)
				left := tracks(t, d)
				got := told(t, opened(t, d))
				at := slices.IndexFunc(w.states[w.sure:], func(h held) bool { return maps.Equal(h, got) })
				if at < 0 {
					t.Fatalf("%s, %d turns, %v: of %d Keeps, %d sure: %x", run, after, f, len(w.states)-1, w.sure, got)
				}
				seen[w.sure+at]++
				mustHold(t, "opened again", opened(t, d), got)
				if n%5 == 0 {
					mustOpenThoughItFalls(t, left, got, after+n)
				}
			}
			if !d.Broken() {
				break
			}
		}
		if len(seen) < 4 {
			t.Errorf("%s: only %v", run, seen)
		}
	}
}

// mustOpenThoughItFalls asks that a drum is opened with the same records though it falls at each turn of an Open.
func mustOpenThoughItFalls(t *testing.T, left [][]byte, want held, turn int) {
	t.Helper()
	for after := 0; ; after++ {
		d := laidOut(t, left)
		d.Break(after)
		if _, e := vault.Open(d); e == api.OK {
			return
		}
		ways := waysToFall(len(d.Afloat()), turn)
		f := ways[turn%len(ways)]
		turn++
		d.Fall(f.keep, f.torn, f.cut)
		mustHold(t, "it fell as it was opened", opened(t, d), want)
	}
}

// A Keep comes through a fall if all its leaves do, and does not if one of them is lost or torn.
func TestKeepIsAllOrNothing(t *testing.T) {
	had := held{1: string(mixed(200, 1)), 2: "two", 3: ""}
	want := had.with(1, mixed(100, 4)).with(4, mixed(250, 5)).without(2)
	run := func() *drum.Drum {
		d, v := filled(t, 16, 30, had)
		must(t, "Put", v.Put(1, mixed(100, 4)))
		v.Drop(2)
		must(t, "Put", v.Put(4, mixed(250, 5)))
		must(t, "Keep", v.Keep())
		return d
	}
	n := len(run().Afloat())
	if n < 2 {
		t.Fatalf("%d leaves", n)
	}
	for _, keep := range kept(n) {
		for torn := -1; torn < n; torn++ {
			d := run()
			d.Fall(keep, torn, 70)
			if len(keep) == n {
				mustHold(t, "all came through", opened(t, d), want)
			} else {
				mustHold(t, "not all came through", opened(t, d), had)
			}
		}
	}
}

// Long runs of all calls on vaults whose drums break and fall, against lists of records behind each Keep.
func TestLongRuns(t *testing.T) {
	for seed := range 60 {
		x := dice(seed * 7919)
		d, v := made(t, 5+x.below(30), 5+x.below(40))
		states, now, falls := []held{{}}, held{}, 0
		for step := range 300 {
			last := states[len(states)-1]
			e := api.OK
			switch k := x.below(20); {
			case k < 8:
				e, now = x.putSome(t, v, now)
			case k < 10:
				id := 1 + x.below(8)
				_, is := now[id]
				if v.Drop(id) != is {
					t.Fatalf("seed %d, step %d: Drop(%d)", seed, step, id)
				}
				now = now.without(id)
			case k < 14:
				e = v.Keep()
				if e == api.OK {
					states = append(states, now)
				} else if e == api.ErrBig {
					e, now = api.OK, last
				}
			case k == 14:
				v.Undo()
				now = last
			case k == 15:
				if e = v.Settle(); e == api.OK {
					states = states[len(states)-1:]
				}
			case k == 16:
				if e = v.Close(); e == api.OK {
					states = states[len(states)-1:]
				}
			case k == 17:
				d.Break(x.below(30))
			case k == 18 && x.below(4) == 0:
				e = api.ErrDown
			}
			mustHold(t, "seed "+strconv.Itoa(seed)+", step "+strconv.Itoa(step), v, now)
			if e == api.ErrDown {
				v, now = x.fallAndOpen(t, d, states)
				states = []held{now}
				falls++
			} else {
				must(t, "seed "+strconv.Itoa(seed), e)
			}
		}
		if falls < 3 {
			t.Errorf("seed %d: it fell %d times", seed, falls)
		}
		mustWithstandSomeBursts(t, &x, d, v)
	}
}

// putSome Puts some bytes; it answers ErrDown where the vault is lost, and then, and if they are too many, what was.
func (x *dice) putSome(t *testing.T, v *vault.Vault, now held) (api.Errno, held) {
	t.Helper()
	id, b := 1+x.below(8), mixed(x.below(1+x.below(900)), x.below(1000))
	next := now.with(id, b)
	want := api.OK
	if v.Lost() {
		want = api.ErrDown
	} else if next.takes() > v.Tracks() {
		want = api.ErrFull
	}
	e := v.Put(id, b)
	mustBe(t, "Put", e, want)
	if e == api.OK {
		return e, next
	}
	if e == api.ErrFull {
		e = api.OK
	}
	return e, now
}

// fallAndOpen lets the drum fall, at times once more as it is opened; what is opened must be one of the states.
func (x *dice) fallAndOpen(t *testing.T, d *drum.Drum, states []held) (*vault.Vault, held) {
	t.Helper()
	for {
		var keep []int
		often := x.below(5)
		for n := range d.Afloat() {
			if x.below(4) < often {
				keep = append(keep, n)
			}
		}
		d.Fall(keep, x.below(8), x.below(api.Track+1))
		if x.below(3) == 0 {
			d.Break(x.below(12))
		}
		v, e := vault.Open(d)
		if e == api.ErrDown {
			continue
		}
		must(t, "Open", e)
		got := told(t, v)
		if !slices.ContainsFunc(states, func(h held) bool { return maps.Equal(h, got) }) {
			t.Fatalf("none of %d states: %x", len(states), got)
		}
		return v, got
	}
}

// mustWithstandSomeBursts closes a vault that fell, and asks the theorem of some bursts.
func mustWithstandSomeBursts(t *testing.T, x *dice, d *drum.Drum, v *vault.Vault) {
	t.Helper()
	v.Undo()
	if v.Close() != api.OK {
		d.Fall(nil, -1, 0)
		v = opened(t, d)
		must(t, "Close", v.Close())
	}
	d.Break(-1)
	all, want := tracks(t, d), told(t, v)
	for range 60 {
		k, at := x.below(len(all)), x.below(api.Track)
		mustWithstand(t, all, want, k, at, mixed(1+x.below(min(4, api.Track-at)), x.below(1<<20)))
	}
}

// mustWithstand asks that a drum of these tracks, on one of which bytes are turned, is ErrCorrupt, or has these records;
// it tells which.
func mustWithstand(t *testing.T, all [][]byte, want held, k, at int, turn []byte) bool {
	t.Helper()
	turned := slices.Clone(all)
	turned[k] = slices.Clone(all[k])
	for n, c := range turn {
		turned[k][at+n] ^= c
	}
	v, e := vault.Open(laidOut(t, turned))
	if e == api.ErrCorrupt && v == nil {
		return false
	}
	if e != api.OK || !maps.Equal(told(t, v), want) {
		t.Fatalf("track %d, at %d, turned by %x: %d", k, at, turn, e)
	}
	return true
}

// 6.4: of a closed vault up to four bytes, one behind the other, are turned: in each track, at each place.
func TestBursts(t *testing.T) {
	d, v := made(t, 12, 9)
	want := held{}
	for id, n := range map[int]int{1: 81, 7: 300, 39: 0, 40: 80} {
		must(t, "Put", v.Put(id, mixed(n, id)))
		must(t, "Keep", v.Keep())
		want = want.with(id, mixed(n, id))
	}
	v.Drop(40)
	must(t, "Keep", v.Keep())
	want = want.without(40)
	must(t, "Close", v.Close())
	mustHold(t, "closed", v, want)
	all := tracks(t, d)
	corrupt := map[int]int{}
	x := dice(1)
	for k := range all {
		for at := range api.Track {
			for n := 1; n <= min(4, api.Track-at); n++ {
				for _, turn := range [][]byte{{1, 1, 1, 1}, {0x80, 0x80, 0x80, 0x80}, {0xFF, 0xFF, 0xFF, 0xFF}, {0, 0, 0, 1}, mixed(4, x.below(1<<20))} {
					if !mustWithstand(t, all, want, k, at, turn[:n]) {
						corrupt[k]++
					}
				}
			}
		}
	}
	if len(corrupt) < want.takes() {
		t.Errorf("tracks that are corrupt when turned: %v, %d are taken", corrupt, want.takes())
	}
}

// The same of a vault that was closed behind each of the runs, and of one without records.
func TestBurstsBehindRuns(t *testing.T) {
	for k, run := range append(runs(), "", "p1:1 k d1 k") {
		d, v := made(t, 16, 14)
		goOn(t, v, run)
		must(t, "Close", v.Close())
		all, want := tracks(t, d), told(t, v)
		x := dice(k)
		for at := range api.Track {
			for track := range all {
				mustWithstand(t, all, want, track, at, mixed(1+x.below(min(4, api.Track-at)), x.below(1<<20)))
			}
		}
	}
}
