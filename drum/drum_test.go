package drum

import (
	"bytes"
	"math"
	"slices"
	"testing"

	"lariat/api"
)

// of answers a track's bytes, all c.
func of(c byte) []byte {
	return bytes.Repeat([]byte{c}, api.Track)
}

// torn answers a track's bytes of which the first cut are c, the rest rest.
func torn(c byte, cut int, rest byte) []byte {
	return slices.Concat(bytes.Repeat([]byte{c}, cut), bytes.Repeat([]byte{rest}, api.Track-cut))
}

// mixed answers a track's bytes that look like no pattern, always the same ones of a seed.
func mixed(seed uint32) []byte {
	b := make([]byte, api.Track)
	for k := range b {
		seed = seed*1664525 + 1013904223
		b[k] = byte(seed >> 24)
	}
	return b
}

func made(t *testing.T, tracks int) *Drum {
	t.Helper()
	d, e := New(tracks)
	if e != api.OK || d == nil {
		t.Fatalf("New(%d): %d", tracks, e)
	}
	return d
}

func mustLay(t *testing.T, d *Drum, k int, b []byte) {
	t.Helper()
	if e := d.Lay(k, b); e != api.OK {
		t.Fatalf("Lay(%d): %d", k, e)
	}
}

func mustSettle(t *testing.T, d *Drum) {
	t.Helper()
	if e := d.Settle(); e != api.OK {
		t.Fatalf("Settle: %d", e)
	}
}

// mustHold asks that the drum has these tracks, and 0s on all others.
func mustHold(t *testing.T, d *Drum, name string, want map[int][]byte) {
	t.Helper()
	for k := range d.Tracks() {
		w, ok := want[k]
		if !ok {
			w = of(0)
		}
		if b, e := d.Look(k); e != api.OK || !bytes.Equal(b, w) {
			t.Errorf("%s: Look(%d): %d, %x, not %x", name, k, e, b, w)
		}
	}
}

// mustBeDown asks that the drum is broken: what each call answers then, and that ErrArg is ahead of it.
func mustBeDown(t *testing.T, d *Drum, name string) {
	t.Helper()
	if !d.Broken() {
		t.Errorf("%s: not broken", name)
	}
	for _, k := range []int{0, d.Tracks() - 1} {
		if b, e := d.Look(k); e != api.ErrDown || b != nil {
			t.Errorf("%s: Look(%d): %d, %x", name, k, e, b)
		}
		if e := d.Lay(k, of(0xEE)); e != api.ErrDown {
			t.Errorf("%s: Lay(%d): %d", name, k, e)
		}
		if e := d.Lay(k, nil); e != api.ErrArg {
			t.Errorf("%s: Lay(%d) of no bytes: %d", name, k, e)
		}
	}
	for _, k := range []int{-1, d.Tracks()} {
		if b, e := d.Look(k); e != api.ErrArg || b != nil {
			t.Errorf("%s: Look(%d): %d, %x", name, k, e, b)
		}
		if e := d.Lay(k, of(0xEE)); e != api.ErrArg {
			t.Errorf("%s: Lay(%d): %d", name, k, e)
		}
	}
	if e := d.Settle(); e != api.ErrDown {
		t.Errorf("%s: Settle: %d", name, e)
	}
}

// The chapter's example: Lay 1 of 01s, Fall(none, 0, 2): track 1 begins with 01 01 00.
func TestExampleTornTrack(t *testing.T) {
	d := made(t, 10)
	mustLay(t, d, 1, of(1))
	d.Fall(nil, 0, 2)
	if b, e := d.Look(1); e != api.OK || !bytes.HasPrefix(b, []byte{1, 1, 0}) {
		t.Errorf("Look: %d, %x", e, b)
	}
	mustHold(t, d, "all of it", map[int][]byte{1: torn(1, 2, 0)})
}

func TestNew(t *testing.T) {
	for _, tracks := range []int{math.MinInt, -10, -1, 0, 1, 9, api.MaxTracks + 1, math.MaxInt} {
		if d, e := New(tracks); d != nil || e != api.ErrArg {
			t.Errorf("New(%d): %v, %d", tracks, d, e)
		}
	}
	for _, tracks := range []int{10, 11, 500, api.MaxTracks - 1, api.MaxTracks} {
		d := made(t, tracks)
		if d.Tracks() != tracks || d.Broken() || d.Turns() != 0 || len(d.Afloat()) != 0 {
			t.Errorf("New(%d): %d tracks, broken %t, %d turns, afloat %v", tracks, d.Tracks(), d.Broken(), d.Turns(), d.Afloat())
		}
		mustHold(t, d, "a new one", nil)
	}
}

func TestLookOfNoTrack(t *testing.T) {
	for _, tracks := range []int{10, 33, api.MaxTracks} {
		d := made(t, tracks)
		for _, k := range []int{math.MinInt, -tracks, -1, tracks, tracks + 1, math.MaxInt} {
			if b, e := d.Look(k); b != nil || e != api.ErrArg {
				t.Errorf("%d tracks, Look(%d): %d, %x", tracks, k, e, b)
			}
		}
	}
}

func TestLayIsSeenFromThenOn(t *testing.T) {
	d := made(t, 12)
	want := map[int][]byte{}
	for n, k := range []int{0, 11, 5, 5, 0, 10, 5} {
		want[k] = mixed(uint32(n))
		mustLay(t, d, k, want[k])
		mustHold(t, d, "afloat", want)
	}
	mustSettle(t, d)
	mustHold(t, d, "settled", want)
	want[5] = of(0)
	mustLay(t, d, 5, of(0))
	mustHold(t, d, "0s over it", want)
}

func TestEveryTrackIsItsOwn(t *testing.T) {
	d := made(t, api.MaxTracks)
	want := map[int][]byte{}
	for k := range api.MaxTracks {
		want[k] = mixed(uint32(k) + 1)
		mustLay(t, d, k, want[k])
	}
	mustHold(t, d, "afloat", want)
	mustSettle(t, d)
	d.Fall(nil, 0, api.Track)
	mustHold(t, d, "settled", want)
}

func TestLayThatMayNotBe(t *testing.T) {
	d := made(t, 10)
	mustLay(t, d, 3, of(7))
	mustSettle(t, d)
	mustLay(t, d, 4, of(8))
	want := map[int][]byte{3: of(7), 4: of(8)}
	for _, c := range []struct {
		k, bytes int
	}{
		{-1, api.Track}, {10, api.Track}, {11, api.Track}, {math.MinInt, api.Track}, {math.MaxInt, api.Track},
		{3, 0}, {3, 1}, {3, api.Track - 1}, {3, api.Track + 1}, {3, 2 * api.Track}, {-1, 0}, {10, api.Track + 1},
	} {
		if e := d.Lay(c.k, bytes.Repeat([]byte{9}, c.bytes)); e != api.ErrArg {
			t.Errorf("Lay(%d) of %d bytes: %d", c.k, c.bytes, e)
		}
	}
	if e := d.Lay(3, nil); e != api.ErrArg {
		t.Errorf("Lay(3) of nil: %d", e)
	}
	mustHold(t, d, "behind ErrArg", want)
	if !slices.Equal(d.Afloat(), []int{4}) || d.Turns() != 3 || d.Broken() {
		t.Errorf("behind ErrArg: afloat %v, %d turns, broken %t", d.Afloat(), d.Turns(), d.Broken())
	}
}

func TestAfloat(t *testing.T) {
	d := made(t, 10)
	var want []int
	for n, k := range []int{9, 0, 4, 0, 9, 9, 4} {
		mustLay(t, d, k, of(byte(n)))
		if want = append(want, k); !slices.Equal(d.Afloat(), want) {
			t.Errorf("behind %d Lays: %v, not %v", n+1, d.Afloat(), want)
		}
	}
	mustSettle(t, d)
	if len(d.Afloat()) != 0 {
		t.Errorf("behind Settle: %v", d.Afloat())
	}
	mustSettle(t, d)
	mustLay(t, d, 2, of(2))
	if !slices.Equal(d.Afloat(), []int{2}) {
		t.Errorf("behind Settle, and a Lay: %v", d.Afloat())
	}
}

// A Lay of the bytes that the track has is afloat like any other.
func TestLayOfTheSameIsAfloat(t *testing.T) {
	d := made(t, 10)
	mustLay(t, d, 6, of(0))
	mustLay(t, d, 6, of(0))
	if !slices.Equal(d.Afloat(), []int{6, 6}) || d.Turns() != 2 {
		t.Errorf("afloat %v, %d turns", d.Afloat(), d.Turns())
	}
}

func TestSettledStaysWhateverFalls(t *testing.T) {
	for _, keep := range [][]int{nil, {0}, {0, 1, 2}} {
		d := made(t, 10)
		mustLay(t, d, 0, of(1))
		mustLay(t, d, 1, of(2))
		mustLay(t, d, 0, of(3))
		mustSettle(t, d)
		d.Fall(keep, 0, 50)
		mustHold(t, d, "settled", map[int][]byte{0: of(3), 1: of(2)})
		if d.Turns() != 4 {
			t.Errorf("%d turns", d.Turns())
		}
	}
}

func TestFallWithNothingAfloat(t *testing.T) {
	d := made(t, 10)
	for _, keep := range [][]int{nil, {}, {0}, {-1, 0, 1, math.MaxInt, math.MinInt}} {
		for _, n := range []int{-1, 0, 1, math.MinInt, math.MaxInt} {
			d.Fall(keep, n, n)
		}
	}
	mustHold(t, d, "a new one", nil)
	if d.Tracks() != 10 || d.Turns() != 0 || len(d.Afloat()) != 0 || d.Broken() {
		t.Errorf("%d tracks, %d turns, afloat %v, broken %t", d.Tracks(), d.Turns(), d.Afloat(), d.Broken())
	}
}

// fallen answers a drum with 01s settled on track 0, behind Lays of 02s to it, 03s to track 1, 04s to track 0,
// 05s to track 2 and 06s to track 0, and a Fall.
func fallen(t *testing.T, keep []int, torn, cut int) *Drum {
	t.Helper()
	d := made(t, 10)
	mustLay(t, d, 0, of(1))
	mustSettle(t, d)
	for n, k := range []int{0, 1, 0, 2, 0} {
		mustLay(t, d, k, of(byte(n+2)))
	}
	d.Fall(keep, torn, cut)
	return d
}

func TestFallKeeps(t *testing.T) {
	for name, c := range map[string]struct {
		keep []int
		want [3]byte
	}{
		"none":                {nil, [3]byte{1, 0, 0}},
		"an empty list":       {[]int{}, [3]byte{1, 0, 0}},
		"the first":           {[]int{0}, [3]byte{2, 0, 0}},
		"one amid":            {[]int{2}, [3]byte{4, 0, 0}},
		"the last":            {[]int{4}, [3]byte{6, 0, 0}},
		"of others alone":     {[]int{1, 3}, [3]byte{1, 3, 5}},
		"two of one track":    {[]int{0, 2}, [3]byte{4, 0, 0}},
		"told backwards":      {[]int{4, 2, 0}, [3]byte{6, 0, 0}},
		"all":                 {[]int{0, 1, 2, 3, 4}, [3]byte{6, 3, 5}},
		"all, backwards":      {[]int{4, 3, 2, 1, 0}, [3]byte{6, 3, 5}},
		"one more than once":  {[]int{2, 1, 2, 2, 1}, [3]byte{4, 3, 0}},
		"numbers of none":     {[]int{-1, 5, 6, math.MaxInt, math.MinInt}, [3]byte{1, 0, 0}},
		"and some of none":    {[]int{-5, 3, 5, 0, 100}, [3]byte{2, 0, 5}},
		"tracks, not numbers": {[]int{9, 8}, [3]byte{1, 0, 0}},
	} {
		d := fallen(t, c.keep, -1, api.Track)
		mustHold(t, d, name, map[int][]byte{0: of(c.want[0]), 1: of(c.want[1]), 2: of(c.want[2])})
		if len(d.Afloat()) != 0 || d.Broken() || d.Turns() != 7 {
			t.Errorf("%s: afloat %v, broken %t, %d turns", name, d.Afloat(), d.Broken(), d.Turns())
		}
	}
}

func TestFallTears(t *testing.T) {
	for name, c := range map[string]struct {
		keep         []int
		number, cut  int
		zero, second []byte
	}{
		"the first":               {nil, 0, 5, torn(2, 5, 1), of(0)},
		"one amid":                {nil, 2, 5, torn(4, 5, 1), of(0)},
		"of another track":        {nil, 3, 5, of(1), torn(5, 5, 0)},
		"over one that is done":   {[]int{0}, 2, 5, torn(4, 5, 2), of(0)},
		"the last over two":       {[]int{0, 2}, 4, 5, torn(6, 5, 4), of(0)},
		"one behind is done":      {[]int{2}, 0, 5, of(4), of(0)},
		"amid two that are done":  {[]int{0, 4}, 2, 5, of(6), of(0)},
		"in keep":                 {[]int{0}, 0, 5, of(2), of(0)},
		"in keep, and torn over":  {[]int{2, 0}, 2, 5, of(4), of(0)},
		"of no number, below":     {[]int{3}, -1, 5, of(1), of(5)},
		"of no number, behind":    {[]int{3}, 5, 5, of(1), of(5)},
		"of no number, far":       {nil, math.MaxInt, 5, of(1), of(0)},
		"of no number, far below": {nil, math.MinInt, 5, of(1), of(0)},
		"no number, yet in keep":  {[]int{7}, 7, 5, of(1), of(0)},
	} {
		d := fallen(t, c.keep, c.number, c.cut)
		mustHold(t, d, name, map[int][]byte{0: c.zero, 2: c.second})
		if len(d.Afloat()) != 0 || d.Broken() || d.Turns() != 7 {
			t.Errorf("%s: afloat %v, broken %t, %d turns", name, d.Afloat(), d.Broken(), d.Turns())
		}
	}
}

func TestFallCutsAnywhere(t *testing.T) {
	cuts := []int{math.MinInt, -api.Track, -1, api.Track + 1, 2 * api.Track, math.MaxInt}
	for cut := range api.Track + 1 {
		cuts = append(cuts, cut)
	}
	old, later := mixed(1), mixed(2)
	for _, cut := range cuts {
		d := made(t, 10)
		mustLay(t, d, 9, old)
		mustSettle(t, d)
		mustLay(t, d, 9, later)
		d.Fall(nil, 0, cut)
		at := min(max(cut, 0), api.Track)
		mustHold(t, d, "cut", map[int][]byte{9: slices.Concat(later[:at], old[at:])})
	}
}

// A cut says nothing where nothing is torn, and nothing of those that are done.
func TestCutIsOfTheTornOneAlone(t *testing.T) {
	for _, cut := range []int{math.MinInt, 0, 40, api.Track, math.MaxInt} {
		d := fallen(t, []int{1, 3}, 3, cut)
		mustHold(t, d, "in keep", map[int][]byte{0: of(1), 1: of(3), 2: of(5)})
		d = fallen(t, []int{1, 3}, 9, cut)
		mustHold(t, d, "of no number", map[int][]byte{0: of(1), 1: of(3), 2: of(5)})
	}
}

// What a Fall left is settled: a later one does not take it.
func TestFallenIsSettled(t *testing.T) {
	d := fallen(t, []int{3}, 2, 10)
	want := map[int][]byte{0: torn(4, 10, 1), 2: of(5)}
	d.Fall(nil, 0, api.Track)
	mustHold(t, d, "once more", want)
	mustLay(t, d, 0, of(8))
	mustLay(t, d, 1, of(9))
	d.Fall(nil, 1, 3)
	want[1] = torn(9, 3, 0)
	mustHold(t, d, "torn anew", want)
	// The numbers begin at 0 again behind each Fall and each Settle.
	mustLay(t, d, 1, of(9))
	mustSettle(t, d)
	mustLay(t, d, 2, of(4))
	d.Fall([]int{0}, -1, 0)
	mustHold(t, d, "numbered anew", map[int][]byte{0: want[0], 1: of(9), 2: of(4)})
}

func TestBreak(t *testing.T) {
	for after := range 6 {
		for _, settle := range []bool{false, true} {
			d := made(t, 10)
			d.Break(after)
			for n := range after {
				if n%2 == 0 {
					mustLay(t, d, 1, of(byte(n+1)))
				} else {
					mustSettle(t, d)
				}
				if _, e := d.Look(1); e != api.OK || d.Broken() || d.Turns() != n+1 {
					t.Errorf("Break(%d), turn %d: Look: %d, broken %t, %d turns", after, n, e, d.Broken(), d.Turns())
				}
			}
			var e api.Errno
			if settle {
				e = d.Settle()
			} else {
				e = d.Lay(2, of(0xDD))
			}
			if e != api.ErrDown || d.Turns() != after {
				t.Errorf("Break(%d): the one behind: %d, %d turns", after, e, d.Turns())
			}
			mustBeDown(t, d, "broken")
			mustBeDown(t, d, "still broken")
			if d.Turns() != after || len(d.Afloat()) != after%2 {
				t.Errorf("Break(%d), broken: %d turns, afloat %v", after, d.Turns(), d.Afloat())
			}
		}
	}
}

// Neither the turn that breaks the drum nor one behind it is done.
func TestBrokenTurnIsNotDone(t *testing.T) {
	for _, keep := range [][]int{nil, {0}, {0, 1, 2, 3}} {
		d := made(t, 10)
		mustLay(t, d, 0, of(1))
		mustSettle(t, d)
		mustLay(t, d, 0, of(2))
		d.Break(0)
		if e := d.Settle(); e != api.ErrDown {
			t.Errorf("Settle: %d", e)
		}
		if d.Lay(1, of(3)) != api.ErrDown || d.Settle() != api.ErrDown || !slices.Equal(d.Afloat(), []int{0}) || d.Turns() != 3 {
			t.Errorf("afloat %v, %d turns", d.Afloat(), d.Turns())
		}
		d.Fall(keep, -1, 0)
		mustHold(t, d, "fallen", map[int][]byte{0: of(byte(1 + min(len(keep), 1)))})
	}
}

func TestFallMendsTheDrum(t *testing.T) {
	d := made(t, 10)
	for round := range 4 {
		d.Break(1)
		mustLay(t, d, 1, of(byte(round+1)))
		if e := d.Lay(2, of(0xDD)); e != api.ErrDown {
			t.Errorf("round %d: %d", round, e)
		}
		mustBeDown(t, d, "broken")
		d.Fall([]int{0}, 1, 50)
		if d.Broken() || len(d.Afloat()) != 0 {
			t.Errorf("round %d: broken %t, afloat %v", round, d.Broken(), d.Afloat())
		}
		mustHold(t, d, "mended", map[int][]byte{1: of(byte(round + 1))})
		for range 20 {
			mustSettle(t, d)
		}
		if d.Turns() != 21*(round+1) {
			t.Errorf("round %d: %d turns", round, d.Turns())
		}
	}
}

func TestFallTakesBackABreakThatIsNotDue(t *testing.T) {
	for _, after := range []int{0, 1, 5} {
		d := made(t, 10)
		d.Break(after)
		d.Fall(nil, 0, 0)
		for range 10 {
			mustSettle(t, d)
		}
		if d.Broken() || d.Turns() != 10 {
			t.Errorf("Break(%d), Fall: broken %t, %d turns", after, d.Broken(), d.Turns())
		}
	}
}

func TestBreakBelowZeroIsNone(t *testing.T) {
	for _, after := range []int{-1, -2, math.MinInt} {
		d := made(t, 10)
		d.Break(after)
		for range 10 {
			mustSettle(t, d)
		}
		d.Break(0)
		d.Break(after)
		for range 10 {
			mustLay(t, d, 0, of(1))
		}
		if d.Broken() || d.Turns() != 20 {
			t.Errorf("Break(%d): broken %t, %d turns", after, d.Broken(), d.Turns())
		}
	}
}

func TestBreakFarAhead(t *testing.T) {
	for _, after := range []int{1000, 1<<62 - 1, 1 << 62, 1<<62 + 1, math.MaxInt} {
		d := made(t, 10)
		d.Break(after)
		for range 1000 {
			mustSettle(t, d)
		}
		if d.Broken() {
			t.Errorf("Break(%d): broken", after)
		}
	}
}

// A break that is set anew counts from then on, whatever was left of the one ahead of it.
func TestBreakSetAnew(t *testing.T) {
	for _, c := range [][3]int{{3, 1, 2}, {3, 1, 0}, {3, 1, 5}, {2, 2, 1}, {2, 2, 0}, {0, 0, 3}, {5, 0, 0}} {
		d := made(t, 10)
		d.Break(c[0])
		for range c[1] {
			mustSettle(t, d)
		}
		d.Break(c[2])
		for range c[2] {
			mustSettle(t, d)
		}
		if d.Broken() || d.Settle() != api.ErrDown || !d.Broken() || d.Turns() != c[1]+c[2] {
			t.Errorf("%v: broken %t, %d turns", c, d.Broken(), d.Turns())
		}
	}
}

func TestBreakOfABrokenDrum(t *testing.T) {
	for _, after := range []int{-1, 0, 1, 100, math.MaxInt} {
		d := made(t, 10)
		d.Break(0)
		d.Settle()
		d.Break(after)
		mustBeDown(t, d, "broken")
		d.Fall(nil, -1, 0)
		for range 5 {
			mustSettle(t, d)
		}
		if d.Broken() || d.Turns() != 5 {
			t.Errorf("Break(%d) of a broken drum, Fall: broken %t, %d turns", after, d.Broken(), d.Turns())
		}
	}
}

// What answers ErrArg, and what is not Lay or Settle, uses up no turn, and breaks no drum that is due to.
func TestWhatIsNoTurn(t *testing.T) {
	none := func(d *Drum) {
		for range 3 {
			d.Lay(-1, of(1))
			d.Lay(10, of(1))
			d.Lay(0, of(1)[1:])
			d.Lay(0, nil)
			d.Look(0)
			d.Look(-1)
			d.Look(10)
			d.Tracks()
			d.Afloat()
			d.Broken()
			d.Turns()
		}
	}
	d := made(t, 10)
	d.Break(2)
	for n := range 2 {
		none(d)
		mustLay(t, d, n, of(1))
	}
	none(d)
	if d.Broken() || d.Turns() != 2 {
		t.Errorf("ahead of the break: broken %t, %d turns", d.Broken(), d.Turns())
	}
	if e := d.Lay(2, of(1)); e != api.ErrDown || !d.Broken() {
		t.Errorf("at the break: %d, broken %t", e, d.Broken())
	}
	none(d)
	if !d.Broken() || d.Turns() != 2 || !slices.Equal(d.Afloat(), []int{0, 1}) {
		t.Errorf("broken: %t, %d turns, afloat %v", d.Broken(), d.Turns(), d.Afloat())
	}
}

// scribble turns all of a list, its spare room too.
func scribble[T byte | int](list []T) {
	list = list[:cap(list)]
	for k := range list {
		list[k] ^= 0x55
	}
}

func TestNothingHandedInIsChanged(t *testing.T) {
	room := bytes.Repeat([]byte{0xA5}, 3*api.Track)
	was := bytes.Clone(room)
	for _, n := range []int{0, api.Track - 1, api.Track, api.Track + 1} {
		d := made(t, 10)
		d.Lay(1, room[:n])
		d.Lay(1, of(3))
		d.Fall([]int{1}, 0, 50)
		if !bytes.Equal(room, was) {
			t.Errorf("Lay of %d bytes: %x", n, room)
		}
	}
	numbers := []int{3, 0, 3, -1, 9, 1, 2, 0}
	d := fallen(t, numbers[:5], 2, 7)
	if !slices.Equal(numbers, []int{3, 0, 3, -1, 9, 1, 2, 0}) {
		t.Errorf("Fall: %v", numbers)
	}
	mustHold(t, d, "fallen", map[int][]byte{0: torn(4, 7, 2), 2: of(5)})
}

func TestNothingHandedInIsKept(t *testing.T) {
	b := of(1)
	d := made(t, 10)
	mustLay(t, d, 0, b)
	mustLay(t, d, 1, b)
	scribble(b)
	mustHold(t, d, "afloat", map[int][]byte{0: of(1), 1: of(1)})
	keep := []int{1}
	d.Fall(keep, 0, 9)
	scribble(b)
	scribble(keep)
	mustHold(t, d, "fallen", map[int][]byte{0: torn(1, 9, 0), 1: of(1)})
	b = of(2)
	mustLay(t, d, 2, b)
	mustSettle(t, d)
	scribble(b)
	d.Fall(nil, -1, 0)
	mustHold(t, d, "settled", map[int][]byte{0: torn(1, 9, 0), 1: of(1), 2: of(2)})
}

func TestAnswersAreNewMemory(t *testing.T) {
	d := made(t, 10)
	mustLay(t, d, 3, of(1))
	mustSettle(t, d)
	mustLay(t, d, 3, of(2))
	mustLay(t, d, 4, of(3))
	first, _ := d.Look(3)
	second, _ := d.Look(3)
	scribble(first)
	at, again := d.Afloat(), d.Afloat()
	scribble(at)
	if !bytes.Equal(second, of(2)) || !slices.Equal(again, []int{3, 4}) || !slices.Equal(d.Afloat(), []int{3, 4}) {
		t.Errorf("scribbled on: %x, %v, %v", second, again, d.Afloat())
	}
	mustHold(t, d, "scribbled on", map[int][]byte{3: of(2), 4: of(3)})
	d.Fall(nil, 1, 8)
	if !bytes.Equal(second, of(2)) || !slices.Equal(again, []int{3, 4}) {
		t.Errorf("a Fall turned what was told ahead of it: %x, %v", second, again)
	}
	mustHold(t, d, "fallen", map[int][]byte{3: of(1), 4: torn(3, 8, 0)})
}

// R1: nil drums have no answer, or ErrArg, and nothing panics.
func TestNilDrum(t *testing.T) {
	var d *Drum
	d.Break(0)
	d.Fall([]int{0}, 0, 5)
	for _, k := range []int{-1, 0, 9} {
		if b, e := d.Look(k); b != nil || e != api.ErrArg {
			t.Errorf("Look(%d): %d, %x", k, e, b)
		}
		if e := d.Lay(k, of(1)); e != api.ErrArg {
			t.Errorf("Lay(%d): %d", k, e)
		}
	}
	if e := d.Settle(); e != api.ErrArg {
		t.Errorf("Settle: %d", e)
	}
	if d.Tracks() != 0 || d.Broken() || len(d.Afloat()) != 0 || d.Turns() != 0 {
		t.Errorf("%d tracks, broken %t, afloat %v, %d turns", d.Tracks(), d.Broken(), d.Afloat(), d.Turns())
	}
}

// R7: drums know nothing of one another.
func TestDrumsAreApart(t *testing.T) {
	d, other := made(t, 10), made(t, 10)
	mustLay(t, d, 1, of(1))
	mustSettle(t, d)
	mustLay(t, d, 2, of(2))
	d.Break(0)
	d.Settle()
	mustHold(t, other, "the other", nil)
	if other.Broken() || other.Turns() != 0 || len(other.Afloat()) != 0 {
		t.Errorf("the other: broken %t, %d turns, afloat %v", other.Broken(), other.Turns(), other.Afloat())
	}
	other.Fall([]int{0}, -1, 0)
	mustBeDown(t, d, "the one")
}

// plain is a drum as the chapter says it, in the plainest way: what a track has is looked for among the Lays that
// are afloat, from the last one back, and then in base.
type plain struct {
	tracks int
	base   map[int][]byte
	lays   []int
	laid   [][]byte
	turns  int
	well   int
	broken bool
}

func newPlain(tracks int) *plain {
	return &plain{base: map[int][]byte{}, well: -1, tracks: tracks}
}

func (p *plain) look(k int) []byte {
	for n := len(p.lays) - 1; n >= 0; n-- {
		if p.lays[n] == k {
			return p.laid[n]
		}
	}
	if b, ok := p.base[k]; ok {
		return b
	}
	return of(0)
}

func (p *plain) goes() bool {
	if p.broken || p.well == 0 {
		p.broken = true
		return false
	}
	if p.well > 0 {
		p.well--
	}
	p.turns++
	return true
}

func (p *plain) lay(k int, b []byte) api.Errno {
	if k < 0 || k >= p.tracks || len(b) != api.Track {
		return api.ErrArg
	}
	if !p.goes() {
		return api.ErrDown
	}
	p.lays, p.laid = append(p.lays, k), append(p.laid, bytes.Clone(b))
	return api.OK
}

func (p *plain) settle() api.Errno {
	if !p.goes() {
		return api.ErrDown
	}
	p.end(func(int) int { return api.Track })
	return api.OK
}

// end does of each Lay as many bytes as share says.
func (p *plain) end(share func(n int) int) {
	lays, laid := p.lays, p.laid
	p.lays, p.laid = nil, nil
	for n, k := range lays {
		p.base[k] = slices.Concat(laid[n][:share(n)], p.look(k)[share(n):])
	}
}

func (p *plain) fall(keep []int, torn, cut int) {
	p.end(func(n int) int {
		switch {
		case slices.Contains(keep, n):
			return api.Track
		case n == torn:
			return min(max(cut, 0), api.Track)
		}
		return 0
	})
	p.well, p.broken = -1, false
}

// mustAgree asks that the drum tells what the plain one does.
func mustAgree(t *testing.T, d *Drum, p *plain, step int) {
	t.Helper()
	if d.Tracks() != p.tracks || d.Broken() != p.broken || d.Turns() != p.turns || !slices.Equal(d.Afloat(), p.lays) {
		t.Fatalf("step %d: broken %t, %d turns, afloat %v; must be %t, %d, %v", step, d.Broken(), d.Turns(), d.Afloat(), p.broken, p.turns, p.lays)
	}
	for k := range p.tracks {
		b, e := d.Look(k)
		if p.broken && (e != api.ErrDown || b != nil) || !p.broken && (e != api.OK || !bytes.Equal(b, p.look(k))) {
			t.Fatalf("step %d: broken %t, Look(%d): %d, %x", step, p.broken, k, e, b)
		}
	}
}

// Long mixed runs, always the same ones, against the plain drum.
func TestLongRuns(t *testing.T) {
	for run := range 20 {
		seed := uint32(run)
		pick := func(n int) int {
			seed = seed*1664525 + 1013904223
			return int(seed>>8) % n
		}
		d, p := made(t, 10+run%3), newPlain(10+run%3)
		for step := range 1500 {
			var got, want api.Errno
			switch what := pick(20); {
			case what < 12:
				// Few tracks, so that one is often laid on more than once; now and then none.
				k, b := pick(6)-1+pick(2)*pick(8), mixed(seed)[:api.Track-pick(12)/11]
				got, want = d.Lay(k, b), p.lay(k, b)
			case what < 15:
				got, want = d.Settle(), p.settle()
			case what < 17:
				after := pick(12) - 3
				d.Break(after)
				p.well = max(after, -1)
			default:
				keep := make([]int, pick(6))
				for k := range keep {
					keep[k] = pick(10) - 1
				}
				torn, cut := pick(10)-1, pick(api.Track+20)-10
				d.Fall(keep, torn, cut)
				p.fall(keep, torn, cut)
			}
			if got != want {
				t.Fatalf("run %d, step %d: %d, must be %d", run, step, got, want)
			}
			mustAgree(t, d, p, step)
		}
	}
}
