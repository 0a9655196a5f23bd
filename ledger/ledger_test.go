package ledger

import (
	"bytes"
	"math"
	"slices"
	"strconv"
	"testing"

	"lariat/api"
	"lariat/drum"
	"lariat/seal"
)

// of answers a track's bytes, all c.
func of(c byte) []byte {
	return bytes.Repeat([]byte{c}, api.Track)
}

// mixed answers a track's bytes that look like no pattern, always the same ones of a seed.
func mixed(seed int) []byte {
	b := make([]byte, api.Track)
	x := uint32(seed)*2654435761 + 12345
	for k := range b {
		x = x*1664525 + 1013904223
		b[k] = byte(x >> 24)
	}
	return b
}

// entries of pairs: a home track, and the seed of its bytes.
func entries(pairs ...int) []Entry {
	var e []Entry
	for k := 0; k < len(pairs); k += 2 {
		e = append(e, Entry{At: pairs[k], B: mixed(pairs[k+1])})
	}
	return e
}

// many answers entries of n home tracks, from the first on.
func many(n, seed int) []Entry {
	var e []Entry
	for k := range n {
		e = append(e, Entry{At: k, B: mixed(seed + k)})
	}
	return e
}

// scribble turns all bytes of b, its spare room included.
func scribble(b []byte) {
	b = b[:cap(b)]
	for k := range b {
		b[k] ^= 0x5A
	}
}

// four and two answer n's bytes, the highest first.
func four(n int) []byte { return []byte{byte(n >> 24), byte(n >> 16), byte(n >> 8), byte(n)} }
func two(n int) []byte  { return []byte{byte(n >> 8), byte(n)} }

// shut closes what a track holds.
func shut(parts ...[]byte) []byte {
	b, ok := seal.Close(slices.Concat(parts...))
	if !ok {
		panic("too many bytes for a track")
	}
	return b
}

// cover answers the cover of a round.
func cover(round, leaves int) []byte {
	return shut(four(round), two(leaves), make([]byte, 74), four(round))
}

// text answers the bytes of a posting.
func text(e []Entry) []byte {
	b := two(len(e))
	for _, x := range e {
		b = slices.Concat(b, two(x.At), x.B)
	}
	return b
}

// leavesOf answers the leaves on which a posting's bytes are laid, as the chapter tells them.
func leavesOf(round, n int, b []byte) [][]byte {
	total := 0
	for total*64 < len(b) {
		total++
	}
	var out [][]byte
	for place := range total {
		part := make([]byte, 64)
		copy(part, b[place*64:])
		out = append(out, shut(four(round), four(n), two(place), two(total), part, four(n), four(round)))
	}
	return out
}

func newDrum(t *testing.T, tracks int) *drum.Drum {
	t.Helper()
	d, e := drum.New(tracks)
	if e != api.OK {
		t.Fatalf("drum.New(%d): %d", tracks, e)
	}
	return d
}

func opened(t *testing.T, d *drum.Drum) *Ledger {
	t.Helper()
	l, e := Open(d)
	if e != api.OK || l == nil {
		t.Fatalf("Open: %d", e)
	}
	return l
}

func made(t *testing.T, tracks, leaves int) (*drum.Drum, *Ledger) {
	t.Helper()
	d := newDrum(t, tracks)
	if e := Found(d, leaves); e != api.OK {
		t.Fatalf("Found(%d tracks, %d): %d", tracks, leaves, e)
	}
	return d, opened(t, d)
}

func must(t *testing.T, name string, e api.Errno) {
	t.Helper()
	if e != api.OK {
		t.Fatalf("%s: %d", name, e)
	}
}

// tracks answers all of a drum's tracks.
func tracks(t *testing.T, d *drum.Drum) [][]byte {
	t.Helper()
	out := make([][]byte, d.Tracks())
	for k := range out {
		b, e := d.Look(k)
		must(t, "drum.Look", e)
		out[k] = b
	}
	return out
}

// laidOut answers a drum with these tracks, all settled.
func laidOut(t *testing.T, tracks [][]byte) *drum.Drum {
	t.Helper()
	d := newDrum(t, len(tracks))
	for k, b := range tracks {
		must(t, "drum.Lay", d.Lay(k, b))
	}
	must(t, "drum.Settle", d.Settle())
	return d
}

func same(a, b [][]byte) bool {
	return slices.EqualFunc(a, b, func(x, y []byte) bool { return bytes.Equal(x, y) })
}

// homes answers what Look tells of all home tracks.
func homes(t *testing.T, l *Ledger) [][]byte {
	t.Helper()
	out := make([][]byte, l.Home())
	for k := range out {
		b, e := l.Look(k)
		if e != api.OK || len(b) != api.Track {
			t.Fatalf("Look(%d): %d, %x", k, e, b)
		}
		out[k] = b
	}
	return out
}

// blanks answers n tracks of 0s.
func blanks(n int) [][]byte {
	out := make([][]byte, n)
	for k := range out {
		out[k] = of(0)
	}
	return out
}

// behind answers home tracks as they are behind a posting.
func behind(home [][]byte, e []Entry) [][]byte {
	home = slices.Clone(home)
	for _, x := range e {
		home[x.At] = x.B
	}
	return home
}

func mustHold(t *testing.T, name string, got, want [][]byte) {
	t.Helper()
	if len(got) != len(want) {
		t.Fatalf("%s: %d tracks, not %d", name, len(got), len(want))
	}
	for k := range want {
		if !bytes.Equal(got[k], want[k]) {
			t.Errorf("%s: track %d: %x, not %x", name, k, got[k], want[k])
		}
	}
}

// mustBeLost asks what a lost ledger answers, and that it turns nothing on the drum.
func mustBeLost(t *testing.T, name string, d *drum.Drum, l *Ledger) {
	t.Helper()
	turns := d.Turns()
	if !l.Lost() {
		t.Errorf("%s: not lost", name)
	}
	for k := range l.Home() {
		if b, e := l.Look(k); e != api.ErrDown || b != nil {
			t.Errorf("%s: Look(%d): %d, %x", name, k, e, b)
		}
	}
	if e := l.Write(entries(0, 77)); e != api.ErrDown {
		t.Errorf("%s: Write: %d", name, e)
	}
	if e := l.Settle(); e != api.ErrDown {
		t.Errorf("%s: Settle: %d", name, e)
	}
	if e := l.Balance(); e != api.ErrDown {
		t.Errorf("%s: Balance: %d", name, e)
	}
	if !l.Lost() || d.Turns() != turns {
		t.Errorf("%s: lost %t, %d turns, not %d", name, l.Lost(), d.Turns(), turns)
	}
}

// The chapter's example.
func TestExampleLeaves(t *testing.T) {
	if a, b := Leaves(1), Leaves(6); a != 2 || b != 10 {
		t.Errorf("%d; %d", a, b)
	}
}

func TestLeaves(t *testing.T) {
	for _, n := range []int{math.MinInt, -65536, -64, -2, -1, 0} {
		if got := Leaves(n); got != 0 {
			t.Errorf("Leaves(%d): %d", n, got)
		}
	}
	for n, want := range map[int]int{1: 2, 2: 4, 3: 5, 4: 7, 5: 8, 6: 10, 7: 11, 13: 20, 64: 99, 1 << 40: 1<<40/64*98 + 1} {
		if got := Leaves(n); got != want {
			t.Errorf("Leaves(%d): %d, not %d", n, got, want)
		}
	}
	for n := 1; n < 300; n++ {
		if got, want := Leaves(n), len(leavesOf(1, 1, make([]byte, 2+n*98))); got != want {
			t.Errorf("Leaves(%d): %d, not %d", n, got, want)
		}
	}
}

// What is no int any more is the greatest one: more than any drum has.
func TestLeavesOfTooMany(t *testing.T) {
	last := Leaves(1 << 61)
	for _, n := range []int{1<<61 + 1, 1 << 62, math.MaxInt / 98 * 64, math.MaxInt / 2, math.MaxInt - 1, math.MaxInt} {
		if got := Leaves(n); got < n {
			t.Errorf("Leaves(%d): %d", n, got)
		}
	}
	if last != 1<<61/64*98+1 || Leaves(math.MaxInt) != math.MaxInt {
		t.Errorf("%d, %d", last, Leaves(math.MaxInt))
	}
}

func TestFoundOfWrongArguments(t *testing.T) {
	for _, leaves := range []int{-1, 0, 5, 6, 100} {
		if e := Found(nil, leaves); e != api.ErrArg {
			t.Errorf("Found(nil, %d): %d", leaves, e)
		}
	}
	for _, n := range []int{10, 11, 50, api.MaxTracks} {
		d := newDrum(t, n)
		must(t, "Lay", d.Lay(0, of(9)))
		for _, leaves := range []int{math.MinInt, -6, -1, 0, 1, 4, n - 3, n - 2, n - 1, n, 65535, 65536 + 5, 1 << 32, math.MaxInt - 1, math.MaxInt} {
			if e := Found(d, leaves); e != api.ErrArg {
				t.Errorf("Found(%d tracks, %d): %d", n, leaves, e)
			}
		}
		if d.Turns() != 1 || len(d.Afloat()) != 1 {
			t.Errorf("%d tracks: %d turns", n, d.Turns())
		}
		d.Break(0)
		d.Settle()
		if e := Found(d, 4); e != api.ErrArg {
			t.Errorf("a broken drum, 4 leaves: %d", e)
		}
	}
}

func TestFound(t *testing.T) {
	for _, c := range []struct{ tracks, leaves int }{{10, 5}, {10, 6}, {11, 5}, {11, 7}, {300, 5}, {300, 255}, {300, 256}, {300, 296}, {api.MaxTracks, 5}, {api.MaxTracks, api.MaxTracks - 4}} {
		d := newDrum(t, c.tracks)
		want := make([][]byte, c.tracks)
		for k := range want {
			want[k] = mixed(k)
			must(t, "Lay", d.Lay(k, want[k]))
		}
		turns := d.Turns()
		must(t, "Found", Found(d, c.leaves))
		if d.Turns() != turns+c.leaves+5 || len(d.Afloat()) != 0 {
			t.Errorf("%v: %d turns, afloat %v", c, d.Turns()-turns, d.Afloat())
		}
		copy(want, blanks(c.leaves+2))
		want[1] = cover(1, c.leaves)
		mustHold(t, "founded", tracks(t, d), want)
		l := opened(t, d)
		if l.Home() != c.tracks-2-c.leaves || l.Blank() != c.leaves || l.Lost() {
			t.Errorf("%v: %d home tracks, %d blank", c, l.Home(), l.Blank())
		}
		mustHold(t, "home", homes(t, l), want[2+c.leaves:])
	}
}

// Found's Lays are by number, and what is afloat behind each turn is as told.
func TestFoundBreaks(t *testing.T) {
	const leaves = 6
	for after := range leaves + 5 {
		d := newDrum(t, 12)
		d.Break(after)
		if e := Found(d, leaves); e != api.ErrDown || !d.Broken() || d.Turns() != after {
			t.Errorf("%d turns: %d, broken %t, %d turns", after, e, d.Broken(), d.Turns())
		}
		var want []int
		if after <= leaves+2 {
			for k := range after {
				want = append(want, k)
			}
		} else if after == leaves+4 {
			want = []int{1}
		}
		if got := d.Afloat(); !slices.Equal(got, want) {
			t.Errorf("%d turns: afloat %v, not %v", after, got, want)
		}
		if e := Found(d, leaves); e != api.ErrDown {
			t.Errorf("broken: %d", e)
		}
	}
	d := newDrum(t, 12)
	d.Break(leaves + 5)
	must(t, "Found", Found(d, leaves))
}

// A drum that had a ledger is founded anew: nothing of its leaves is read.
func TestFoundAnew(t *testing.T) {
	d, l := made(t, 20, 8)
	must(t, "Write", l.Write(entries(0, 1, 3, 2)))
	must(t, "Settle", l.Settle())
	must(t, "Found", Found(d, 8))
	mustHold(t, "anew", homes(t, opened(t, d)), blanks(10))
	want := tracks(t, d)
	mustHold(t, "covers", want[:2], [][]byte{cover(2, 8), cover(1, 8)})
}

// mustLie asks for all tracks of a drum: the covers, the leaves, 0s behind them, home.
func mustLie(t *testing.T, name string, d *drum.Drum, leaves int, laid, home [][]byte) {
	t.Helper()
	got := tracks(t, d)
	mustHold(t, name+": leaves", got[2:2+leaves], slices.Concat(laid, blanks(leaves-len(laid))))
	mustHold(t, name+": home", got[2+leaves:], home)
}

func TestWriteLaysLeaves(t *testing.T) {
	for _, c := range []struct {
		tracks, leaves int
		postings       [][]Entry
	}{
		{10, 5, [][]Entry{entries(0, 1)}},
		{10, 5, [][]Entry{entries(2, 1, 0, 2, 1, 3)}},
		{10, 6, [][]Entry{entries(0, 1), entries(0, 1), entries(1, 2)}},
		{40, 20, [][]Entry{entries(17, 1, 3, 2), entries(9, 3), many(6, 70), entries(3, 4, 17, 5)}},
		{200, 99, [][]Entry{many(64, 5)}},
		{1000, 600, [][]Entry{entries(300, 1, 255, 2, 256, 3, 397, 4), many(300, 9), entries(397, 5)}},
	} {
		d, l := made(t, c.tracks, c.leaves)
		turns := d.Turns()
		var want [][]byte
		home := blanks(l.Home())
		for n, e := range c.postings {
			must(t, "Write", l.Write(e))
			want = append(want, leavesOf(2, n+1, text(e))...)
			mustLie(t, "written", d, c.leaves, want, blanks(l.Home()))
			home = behind(home, e)
			mustHold(t, "looked at", homes(t, l), home)
			if l.Blank() != c.leaves-len(want) || d.Turns() != turns+len(want) || len(d.Afloat()) != len(want) {
				t.Errorf("%d blank, %d turns, %d leaves", l.Blank(), d.Turns()-turns, len(want))
			}
		}
		for k, at := range d.Afloat() {
			if at != 2+k {
				t.Errorf("the leaf %d is laid on %d", k, at)
			}
		}
		mustHold(t, "opened", homes(t, opened(t, d)), home)
	}
}

// The bytes of one leaf, written out.
func TestLeafByteByByte(t *testing.T) {
	d, l := made(t, 20, 8)
	must(t, "Write", l.Write([]Entry{{At: 9, B: of(0xAB)}}))
	must(t, "Write", l.Write([]Entry{{At: 1, B: of(0xCD)}}))
	b, _ := d.Look(2)
	want := slices.Concat([]byte{0, 0, 0, 2, 0, 0, 0, 1, 0, 0, 0, 2, 0, 1, 0, 9}, bytes.Repeat([]byte{0xAB}, 60), []byte{0, 0, 0, 1, 0, 0, 0, 2})
	if !bytes.Equal(b[:84], want) {
		t.Errorf("%x", b)
	}
	b, _ = d.Look(5)
	want = slices.Concat([]byte{0, 0, 0, 2, 0, 0, 0, 2, 0, 1, 0, 2}, bytes.Repeat([]byte{0xCD}, 36), make([]byte, 28), []byte{0, 0, 0, 2, 0, 0, 0, 2})
	if !bytes.Equal(b[:84], want) {
		t.Errorf("%x", b)
	}
	if x, ok := seal.Open(b); !ok || !bytes.Equal(x, want) {
		t.Errorf("it does not open: %x", b)
	}
}

// Numbers from 1 on in each round, the leaves from the first on; rounds of up to four bytes.
func TestWriteInLaterRounds(t *testing.T) {
	for _, round := range []int{1, 2, 254, 255, 256, 65535, 0x010203FE, 1 << 31, 1<<31 - 1, 1<<32 - 4} {
		b := slices.Concat(blanks(8), blanks(8))
		b[round%2] = cover(round, 8)
		d := laidOut(t, b)
		l := opened(t, d)
		mustHold(t, "the next cover", tracks(t, d)[(round+1)%2:][:1], [][]byte{cover(round+1, 8)})
		must(t, "Write", l.Write(entries(4, 1)))
		must(t, "Write", l.Write(entries(4, 2, 5, 3)))
		want := slices.Concat(leavesOf(round+1, 1, text(entries(4, 1))), leavesOf(round+1, 2, text(entries(4, 2, 5, 3))))
		mustLie(t, "the next round", d, 8, want, blanks(6))
		must(t, "Balance", l.Balance())
		must(t, "Write", l.Write(entries(0, 4)))
		copy(want, leavesOf(round+2, 1, text(entries(0, 4))))
		mustLie(t, "the round behind it", d, 8, want, behind(blanks(6), entries(4, 2, 5, 3)))
		mustHold(t, "its covers", tracks(t, d)[round%2:][:1], [][]byte{cover(round+2, 8)})
		mustHold(t, "opened", homes(t, opened(t, d)), behind(blanks(6), entries(4, 2, 5, 3, 0, 4)))
	}
}

func TestOpenOfNoDrum(t *testing.T) {
	if l, e := Open(nil); l != nil || e != api.ErrArg {
		t.Errorf("%v, %d", l, e)
	}
}

func TestOpenOfBrokenDrum(t *testing.T) {
	d, _ := made(t, 12, 5)
	for _, d := range []*drum.Drum{d, newDrum(t, 10)} {
		d.Break(0)
		d.Settle()
		turns := d.Turns()
		if l, e := Open(d); l != nil || e != api.ErrDown || d.Turns() != turns {
			t.Errorf("%v, %d", l, e)
		}
	}
}

// Covers that are wrong on a drum of 20 tracks, on track 1.
func TestWrongCovers(t *testing.T) {
	turned := func(at int, to byte) []byte {
		b, _ := seal.Open(cover(1, 5))
		b[at] = to
		return shut(b)
	}
	wrong := map[string][]byte{
		"0s": of(0), "no cover": mixed(3), "the round 0": cover(0, 5), "a round of the other place": cover(2, 5),
		"too few leaves": cover(1, 4), "no leaves": cover(1, 0), "one home track": cover(1, 17),
		"no home track": cover(1, 18), "more leaves than tracks": cover(1, 19), "very many leaves": cover(1, 65535),
		"another stamp": turned(83, 3), "a stamp of 0": turned(83, 0), "a high stamp": turned(80, 1),
		"another round ahead": turned(3, 3), "a high round ahead": turned(0, 1),
	}
	for at := 6; at < 80; at++ {
		wrong["no 0 at "+strconv.Itoa(at)] = turned(at, 1)
	}
	for at := range api.Track {
		b := cover(1, 5)
		b[at] ^= 0x10
		wrong["wrong sums at "+strconv.Itoa(at)] = b
	}
	for name, b := range wrong {
		for _, other := range [][]byte{of(0), cover(1, 5), cover(2, 17)} {
			d := newDrum(t, 20)
			must(t, name, d.Lay(0, other))
			must(t, name, d.Lay(1, b))
			if l, e := Open(d); l != nil || e != api.ErrCorrupt || d.Turns() != 2 {
				t.Errorf("%s: %v, %d, %d turns", name, l, e, d.Turns())
			}
		}
		d := newDrum(t, 20)
		must(t, name, d.Lay(0, cover(2, 9)))
		must(t, name, d.Lay(1, b))
		if l := opened(t, d); l.Home() != 9 {
			t.Errorf("%s: beside a right one: %d home tracks", name, l.Home())
		}
	}
	// the same on track 0
	for _, b := range [][]byte{of(0), cover(0, 5), cover(1, 5), cover(2, 4), cover(2, 17), shut(four(2), two(5), make([]byte, 74), four(4))} {
		d := newDrum(t, 20)
		must(t, "Lay", d.Lay(0, b))
		if l, e := Open(d); l != nil || e != api.ErrCorrupt {
			t.Errorf("%x: %v, %d", b, l, e)
		}
	}
}

func TestWhichCoverCounts(t *testing.T) {
	for _, c := range []struct {
		zero, one, leavesZero, leavesOne, round, leaves int
	}{
		{2, 1, 5, 6, 2, 5}, {2, 3, 5, 6, 3, 6}, {4, 1, 7, 6, 4, 7}, {2, 9, 7, 6, 9, 6},
		{256, 255, 5, 16, 256, 5}, {256, 257, 16, 5, 257, 5}, {0x7FFFFFFE, 0x7FFFFFFF, 5, 6, 0x7FFFFFFF, 6},
		{0x80000000, 0x7FFFFFFF, 5, 6, 0x80000000, 5}, {2, 0xFFFFFFFD, 5, 6, 0xFFFFFFFD, 6}, {0xFFFFFFFC, 1, 5, 6, 0xFFFFFFFC, 5},
	} {
		d := newDrum(t, 20)
		must(t, "Lay", d.Lay(0, cover(c.zero, c.leavesZero)))
		must(t, "Lay", d.Lay(1, cover(c.one, c.leavesOne)))
		// a posting of each round in turn: that of the cover that counts is read
		for _, round := range []int{c.zero, c.one} {
			for k, b := range leavesOf(round, 1, text(entries(0, round))) {
				must(t, "Lay", d.Lay(2+k, b))
			}
			x := laidOut(t, tracks(t, d))
			l := opened(t, x)
			want := blanks(18 - c.leaves)
			if round == c.round {
				want[0] = mixed(round)
			}
			mustHold(t, "home", homes(t, l), want)
			if got := tracks(t, x)[(c.round+1)%2]; !bytes.Equal(got, cover(c.round+1, c.leaves)) || l.Blank() != c.leaves {
				t.Errorf("%v: the next cover: %x", c, got)
			}
		}
	}
}

// A cover that is torn at any byte is none, unless it is whole by that: the other one counts.
func TestTornCover(t *testing.T) {
	for _, round := range []int{3, 256, 65536, 0x01000001} {
		for cut := range api.Track + 1 {
			d := newDrum(t, 20)
			must(t, "Lay", d.Lay(round%2, cover(round-2, 7)))
			must(t, "Lay", d.Lay((round+1)%2, cover(round-1, 7)))
			must(t, "Settle", d.Settle())
			must(t, "Lay", d.Lay(round%2, cover(round, 7)))
			d.Fall(nil, 0, cut)
			b, _ := d.Look(round % 2)
			next := round
			if bytes.Equal(b, cover(round, 7)) {
				next = round + 1
			}
			opened(t, d)
			if b, _ = d.Look(next % 2); !bytes.Equal(b, cover(next, 7)) {
				t.Errorf("round %d, cut %d: %x", round, cut, b)
			}
		}
	}
}

// standing answers a drum's tracks with a cover, these leaves and blank home tracks.
func standing(round, leaves, home int, laid ...[][]byte) [][]byte {
	b := blanks(2 + leaves + home)
	b[round%2] = cover(round, leaves)
	copy(b[2:2+leaves], slices.Concat(laid...))
	return b
}

// part turns one of the bytes that a leaf holds, and closes it anew.
func part(b []byte, at int, to byte) []byte {
	x, _ := seal.Open(b)
	x[at] = to
	return shut(x)
}

// retold answers leaves with one of them told otherwise.
func retold(leaves [][]byte, k int, b []byte) [][]byte {
	leaves = slices.Clone(leaves)
	leaves[k] = b
	return leaves
}

func TestOpenReadsWholePostings(t *testing.T) {
	const round, leaves, home = 7, 12, 6
	a, b, c := entries(0, 1, 5, 2), entries(1, 3), entries(5, 4, 1, 5)
	la, lb, lc := leavesOf(round, 1, text(a)), leavesOf(round, 2, text(b)), leavesOf(round, 3, text(c))
	full := behind(behind(behind(blanks(home), a), b), c)
	onlyA := behind(blanks(home), a)
	none := blanks(home)
	old := func(e []Entry, n int) [][]byte { return leavesOf(round-1, n, text(e)) }
	later := func(e []Entry, n int) [][]byte { return leavesOf(round+9, n, text(e)) }
	twice := leavesOf(round, 2, text(entries(3, 1, 4, 2, 3, 3)))
	away := leavesOf(round, 2, text(entries(2, 1, home, 2)))
	gap := [][]byte{of(0)}
	for name, x := range map[string]struct {
		laid [][]byte
		want [][]byte
	}{
		"none":                     {nil, none},
		"all three":                {slices.Concat(la, lb, lc), full},
		"one":                      {la, onlyA},
		"the second alone":         {lb, none},
		"the second first":         {slices.Concat(lb, la), none},
		"the third for the second": {slices.Concat(la, lc), onlyA},
		"the first twice":          {slices.Concat(la, la, lb), onlyA},
		"a gap ahead":              {slices.Concat(gap, la), none},
		"a gap between":            {slices.Concat(la, gap, lb), onlyA},
		"its first leaf lacks":     {slices.Concat(la, gap, lb[1:]), onlyA},
		"its last leaf lacks":      {slices.Concat(la, lb[:1], gap, lc), onlyA},
		"its last leaf left out":   {slices.Concat(la, lb[:1], lc), onlyA},
		"turned round":             {slices.Concat(la, [][]byte{lb[1], lb[0]}, lc), onlyA},
		"a leaf of the old round":  {slices.Concat(la, retold(lb, 0, old(b, 2)[0]), lc), onlyA},
		"its last of the old":      {slices.Concat(la, retold(lb, 1, old(b, 2)[1]), lc), onlyA},
		"all of the old round":     {slices.Concat(old(a, 1), old(b, 2)), none},
		"the second of the old":    {slices.Concat(la, old(b, 2), lc), onlyA},
		"all of a later round":     {slices.Concat(later(a, 1), later(b, 2)), none},
		"a leaf of another number": {slices.Concat(la, retold(lb, 1, leavesOf(round, 3, text(b))[1]), lc), onlyA},
		"the number 0":             {leavesOf(round, 0, text(a)), none},
		"a place twice":            {slices.Concat(la, [][]byte{lb[0], lb[0]}, lc), onlyA},
		"a high place":             {slices.Concat(la, retold(lb, 1, part(lb[1], 8, 1)), lc), onlyA},
		"another how many":         {slices.Concat(la, retold(lb, 1, part(lb[1], 11, 3)), lc), onlyA},
		"a high how many":          {slices.Concat(la, retold(lb, 1, part(lb[1], 10, 1)), lc), onlyA},
		"how many, all alike":      {slices.Concat(la, [][]byte{part(lb[0], 11, 3), part(lb[1], 11, 3)}, lc), onlyA},
		"another number behind":    {slices.Concat(la, retold(lb, 1, part(lb[1], 79, 3)), lc), onlyA},
		"another round behind":     {slices.Concat(la, retold(lb, 1, part(lb[1], 83, round-1)), lc), onlyA},
		"no 0 behind the last":     {slices.Concat(la, retold(lb, 1, part(lb[1], 75, 1)), lc), onlyA},
		"a home track twice":       {slices.Concat(la, twice, leavesOf(round, 3, text(b))), onlyA},
		"no such home track":       {slices.Concat(la, away, leavesOf(round, 3, text(b))), onlyA},
		"none of home":             {slices.Concat(la, leavesOf(round, 2, two(0)), leavesOf(round, 3, text(b))), onlyA},
		"more than it has":         {slices.Concat(la, leavesOf(round, 2, slices.Concat(two(2), text(b)[2:])), lc), onlyA},
		"fewer than it has":        {slices.Concat(la, leavesOf(round, 2, slices.Concat(two(1), text(c)[2:])), lb), onlyA},
		"more than leaves":         {slices.Concat(la, leavesOf(round, 2, slices.Concat(two(65535), text(b)[2:])), lc), onlyA},
		"up to the last leaf":      {slices.Concat(la, leavesOf(round, 2, text(many(5, 9)))), behind(onlyA, many(5, 9))},
		"past the last leaf":       {slices.Concat(la, leavesOf(round, 2, text(many(6, 9)))), onlyA},
		"of all home tracks":       {leavesOf(round, 1, text(many(6, 20))), behind(none, many(6, 20))},
	} {
		d := laidOut(t, standing(round, leaves, home, x.laid))
		turns, ahead := d.Turns(), tracks(t, d)
		l := opened(t, d)
		mustHold(t, name, homes(t, l), x.want)
		taken := 0
		for k := range x.want {
			if !bytes.Equal(x.want[k], of(0)) {
				taken++
			}
		}
		if d.Turns() != turns+taken+3 || len(d.Afloat()) != 0 || l.Blank() != leaves || l.Home() != home || l.Lost() {
			t.Errorf("%s: %d turns, not %d, afloat %v, %d blank", name, d.Turns()-turns, taken+3, d.Afloat(), l.Blank())
		}
		want := slices.Concat(ahead[:2+leaves], x.want)
		want[(round+1)%2] = cover(round+1, leaves)
		mustHold(t, name+": the drum", tracks(t, d), want)
		mustHold(t, name+": opened again", homes(t, opened(t, d)), x.want)
	}
}

// Open lays by number what was taken, each track once, as the last posting says; its errors at each turn.
func TestOpenBreaks(t *testing.T) {
	const round, leaves, home = 4, 11, 8
	first := standing(round, leaves, home, leavesOf(round, 1, text(entries(6, 1, 2, 2))), leavesOf(round, 2, text(entries(7, 3, 0, 4))), leavesOf(round, 3, text(entries(2, 5))))
	d := laidOut(t, first)
	for after, afloat := range [][]int{{}, {13}, {13, 15}, {13, 15, 19}, {13, 15, 19, 20}, {}, {(round + 1) % 2}} {
		d.Break(after)
		turns := d.Turns()
		if l, e := Open(d); l != nil || e != api.ErrDown || d.Turns() != turns+after || !d.Broken() {
			t.Errorf("%d turns: %v, %d, %d turns", after, l, e, d.Turns()-turns)
		}
		if got := d.Afloat(); !slices.Equal(got, afloat) {
			t.Errorf("%d turns: afloat %v, not %v", after, got, afloat)
		}
		d.Fall(nil, -1, 0)
		// what was settled ahead of the cover is home already
		want := slices.Clone(first)
		if after > 4 {
			copy(want[13:], behind(blanks(home), entries(6, 1, 2, 5, 7, 3, 0, 4)))
		}
		mustHold(t, "fallen", tracks(t, d), want)
		d = laidOut(t, first)
	}
	d.Break(7)
	l := opened(t, d)
	mustHold(t, "home", homes(t, l), behind(blanks(home), entries(6, 1, 2, 5, 7, 3, 0, 4)))
}

// Each leaf torn at each of its bytes, over 0s and over leaves of an older round.
func TestTornLeaves(t *testing.T) {
	e := entries(3, 1, 0, 2)
	for _, older := range []int{0, 1, 255} {
		round := older + 2
		over := blanks(8)
		if older > 0 {
			over = slices.Concat(leavesOf(older, 1, text(entries(3, 5, 0, 6))), leavesOf(older, 2, text(entries(1, 8, 2, 9))))
		}
		laid := leavesOf(round, 1, text(e))
		for leaf := range laid {
			for cut := range api.Track + 1 {
				d := laidOut(t, standing(round, 8, 4, over))
				var keep []int
				for k, b := range laid {
					must(t, "Lay", d.Lay(2+k, b))
					if k != leaf {
						keep = append(keep, k)
					}
				}
				d.Fall(keep, leaf, cut)
				b, _ := d.Look(2 + leaf)
				want := blanks(4)
				if bytes.Equal(b, laid[leaf]) {
					want = behind(want, e)
				}
				if got := homes(t, opened(t, d)); !same(got, want) {
					t.Errorf("over %d, leaf %d, cut %d: %x", older, leaf, cut, got)
				}
			}
		}
	}
}

// plainRead is a second reader: what the leaves of these tracks say, told field by field.
func plainRead(tracks [][]byte, round, leaves int) [][]byte {
	num := func(b []byte) int {
		n := 0
		for _, c := range b {
			n = n*256 + int(c)
		}
		return n
	}
	home := slices.Clone(tracks[2+leaves:])
	at := 2
	for n := 1; at < 2+leaves; n++ {
		var b []byte
		total := num(tracks[at][10:12])
		if total == 0 || at+total > 2+leaves {
			return home
		}
		for place := range total {
			x, ok := seal.Open(tracks[at+place])
			if !ok || num(x[:4]) != round || num(x[4:8]) != n || num(x[8:10]) != place || num(x[10:12]) != total || num(x[76:80]) != n || num(x[80:]) != round {
				return home
			}
			b = append(b, x[12:76]...)
		}
		count := num(b[:2])
		if count == 0 || (2+98*count+63)/64 != total {
			return home
		}
		seen := map[int]int{}
		for k := range count {
			k = num(b[2+98*k:][:2])
			seen[k]++
			if k >= len(home) || seen[k] > 1 {
				return home
			}
		}
		for _, c := range b[2+98*count:] {
			if c != 0 {
				return home
			}
		}
		for k := range count {
			home[num(b[2+98*k:][:2])] = b[2+98*k+2:][:96]
		}
		at += total
	}
	return home
}

// Every byte of every leaf turned, closed anew: what is opened is what a second reader tells.
func TestEachByteOfLeavesTurned(t *testing.T) {
	const round, leaves, home = 6, 9, 5
	first := standing(round, leaves, home, leavesOf(round, 1, text(entries(4, 1))), leavesOf(round, 2, text(entries(0, 2, 2, 3))), leavesOf(round, 3, text(entries(2, 4))))
	told := map[string]int{}
	for leaf := range 8 {
		for at := range seal.Body {
			for _, to := range []byte{0, 1, 2, 3, 5, 0x80} {
				b := slices.Clone(first)
				b[2+leaf] = part(b[2+leaf], at, to)
				want := plainRead(b, round, leaves)
				got := homes(t, opened(t, laidOut(t, b)))
				if !same(got, want) {
					t.Fatalf("leaf %d, byte %d is %d: %x, not %x", leaf, at, to, got, want)
				}
				told[string(slices.Concat(want...))]++
			}
			b := slices.Clone(first)
			b[2+leaf] = bytes.Clone(b[2+leaf])
			b[2+leaf][at] ^= 4
			if got, want := homes(t, opened(t, laidOut(t, b))), plainRead(b, round, leaves); !same(got, want) {
				t.Fatalf("leaf %d, byte %d, wrong sums: %x, not %x", leaf, at, got, want)
			}
		}
	}
	if len(told) < 100 {
		t.Errorf("only %d outcomes", len(told))
	}
}

func TestWriteOfWrongArguments(t *testing.T) {
	d, l := made(t, 16, 8)
	must(t, "Write", l.Write(entries(0, 1)))
	turns, ahead, home := d.Turns(), tracks(t, d), homes(t, l)
	for name, e := range map[string][]Entry{
		"nil": nil, "none": {}, "below 0": entries(-1, 1), "far below": entries(math.MinInt, 1), "past the end": entries(6, 1),
		"far past": entries(math.MaxInt, 1), "as many more": entries(65536, 1), "the second past the end": entries(0, 1, 6, 2),
		"twice": entries(3, 1, 3, 1), "twice, not in a row": entries(3, 1, 0, 2, 3, 4), "no bytes": {{At: 0}},
		"a byte too few": {{At: 0, B: of(1)[1:]}}, "a byte too many": {{At: 0, B: append(of(1), 1)}},
		"the second is short": {{At: 0, B: of(1)}, {At: 1, B: of(1)[:95]}},
		"too big, and twice":  slices.Concat(many(6, 1), entries(0, 1)), "too big, and past the end": many(7, 1),
	} {
		if x := l.Write(e); x != api.ErrArg {
			t.Errorf("%s: %d", name, x)
		}
	}
	for _, e := range [][]Entry{many(6, 1), entries(0, 1, 1, 1, 2, 1, 3, 1, 4, 1, 5, 1)} {
		if x := l.Write(e); x != api.ErrBig {
			t.Errorf("%d tracks: %d", len(e), x)
		}
	}
	if d.Turns() != turns || !same(tracks(t, d), ahead) || !same(homes(t, l), home) || l.Blank() != 6 || l.Lost() {
		t.Errorf("%d turns, %d blank, lost %t", d.Turns()-turns, l.Blank(), l.Lost())
	}
	// ErrBig is told by what there is, not by what is blank: this one takes a Balance first
	must(t, "Write", l.Write(many(5, 30)))
	mustHold(t, "as many as there are", homes(t, l), behind(home, many(5, 30)))
}

// ErrArg, then ErrDown, then ErrBig.
func TestWriteErrorsInTheirOrder(t *testing.T) {
	d, l := made(t, 16, 8)
	d.Break(0)
	if e := l.Write(many(6, 1)); e != api.ErrBig || l.Lost() || d.Broken() {
		t.Errorf("the drum is not asked: %d", e)
	}
	if e := l.Write(entries(0, 1)); e != api.ErrDown {
		t.Errorf("%d", e)
	}
	for name, e := range map[string][]Entry{"none": nil, "past the end": entries(6, 1), "twice": entries(1, 1, 1, 1), "short": {{At: 0, B: of(1)[1:]}}} {
		if x := l.Write(e); x != api.ErrArg {
			t.Errorf("lost, %s: %d", name, x)
		}
	}
	if e := l.Write(many(6, 1)); e != api.ErrDown {
		t.Errorf("lost, too big: %d", e)
	}
	for _, k := range []int{math.MinInt, -1, 6, math.MaxInt} {
		if b, e := l.Look(k); b != nil || e != api.ErrArg {
			t.Errorf("lost, Look(%d): %d", k, e)
		}
	}
	mustBeLost(t, "lost", d, l)
}

func TestWriteThatFitsToTheLeaf(t *testing.T) {
	d, l := made(t, 16, 8)
	turns := d.Turns()
	for n, e := range [][]Entry{entries(0, 1), entries(1, 2), entries(2, 3), entries(3, 4)} {
		must(t, "Write", l.Write(e))
		if l.Blank() != 6-2*n || d.Turns() != turns+2+2*n {
			t.Errorf("%d: %d blank, %d turns", n, l.Blank(), d.Turns()-turns)
		}
	}
	turns = d.Turns()
	must(t, "Write", l.Write(entries(0, 5)))
	// Settle, four home tracks, Settle, the cover, Settle, two leaves
	if l.Blank() != 6 || d.Turns() != turns+10 || !slices.Equal(d.Afloat(), []int{2, 3}) {
		t.Errorf("%d blank, %d turns, afloat %v", l.Blank(), d.Turns()-turns, d.Afloat())
	}
	b := tracks(t, d)
	mustHold(t, "covers", b[:2], [][]byte{cover(2, 8), cover(3, 8)})
	mustHold(t, "the leaves", b[2:4], leavesOf(3, 1, text(entries(0, 5))))
	mustHold(t, "old leaves", b[4:10], slices.Concat(leavesOf(2, 2, text(entries(1, 2))), leavesOf(2, 3, text(entries(2, 3))), leavesOf(2, 4, text(entries(3, 4)))))
	mustHold(t, "home on the drum", b[10:], behind(blanks(6), entries(0, 1, 1, 2, 2, 3, 3, 4)))
	mustHold(t, "home", homes(t, l), behind(blanks(6), entries(0, 5, 1, 2, 2, 3, 3, 4)))
}

// With one leaf too few blank, the Balance is first, though nothing else would ask for it.
func TestWriteTakesBalanceFirst(t *testing.T) {
	d, l := made(t, 16, 5)
	must(t, "Write", l.Write(entries(0, 1, 8, 2)))
	turns := d.Turns()
	must(t, "Write", l.Write(entries(8, 3)))
	if l.Blank() != 3 || d.Turns() != turns+8 || !bytes.Equal(tracks(t, d)[1], cover(3, 5)) {
		t.Errorf("%d blank, %d turns", l.Blank(), d.Turns()-turns)
	}
	turns = d.Turns()
	must(t, "Write", l.Write(many(3, 40)))
	if l.Blank() != 0 || d.Turns() != turns+5+5 || !bytes.Equal(tracks(t, d)[0], cover(4, 5)) {
		t.Errorf("%d blank, %d turns", l.Blank(), d.Turns()-turns)
	}
	mustHold(t, "home", homes(t, l), behind(behind(blanks(9), entries(8, 3)), many(3, 40)))
}

func TestLook(t *testing.T) {
	b := standing(1, 6, 7)
	for k := range 7 {
		b[8+k] = mixed(100 + k)
	}
	d := laidOut(t, b)
	l := opened(t, d)
	want := b[8:]
	for n, e := range [][]Entry{nil, entries(3, 1), entries(3, 2, 0, 3), entries(6, 4), entries(3, 5), entries(1, 6, 2, 7)} {
		if e != nil {
			must(t, "Write", l.Write(e))
			want = behind(want, e)
		}
		turns := d.Turns()
		mustHold(t, "home", homes(t, l), want)
		if d.Turns() != turns || l.Home() != 7 {
			t.Errorf("%d: %d turns", n, d.Turns()-turns)
		}
		for _, k := range []int{math.MinInt, -8, -1, 7, 8, 15, math.MaxInt} {
			if b, e := l.Look(k); b != nil || e != api.ErrArg || l.Lost() {
				t.Errorf("Look(%d): %d, %x", k, e, b)
			}
		}
	}
	must(t, "Balance", l.Balance())
	mustHold(t, "balanced", homes(t, l), want)
}

func TestSettle(t *testing.T) {
	d, l := made(t, 16, 8)
	turns := d.Turns()
	must(t, "Settle", l.Settle())
	if d.Turns() != turns+1 || l.Blank() != 8 {
		t.Errorf("%d turns, %d blank", d.Turns()-turns, l.Blank())
	}
	must(t, "Write", l.Write(entries(0, 1, 1, 2)))
	ahead := tracks(t, d)
	must(t, "Settle", l.Settle())
	if d.Turns() != turns+1+4+1 || l.Blank() != 4 || len(d.Afloat()) != 0 || !same(tracks(t, d), ahead) {
		t.Errorf("%d turns, %d blank, afloat %v", d.Turns()-turns, l.Blank(), d.Afloat())
	}
	must(t, "Write", l.Write(entries(0, 3)))
	d.Fall(nil, -1, 0)
	mustHold(t, "what was settled", homes(t, opened(t, d)), behind(blanks(6), entries(0, 1, 1, 2)))
}

func TestBalance(t *testing.T) {
	d, l := made(t, 16, 8)
	turns := d.Turns()
	must(t, "Balance", l.Balance())
	want := standing(3, 8, 6)
	want[0] = cover(2, 8)
	if d.Turns() != turns+4 || l.Blank() != 8 || !same(tracks(t, d), want) {
		t.Errorf("with nothing written: %d turns, %d blank", d.Turns()-turns, l.Blank())
	}
	must(t, "Write", l.Write(entries(5, 1, 0, 2)))
	must(t, "Write", l.Write(entries(5, 3)))
	turns = d.Turns()
	must(t, "Balance", l.Balance())
	copy(want[2:], slices.Concat(leavesOf(3, 1, text(entries(5, 1, 0, 2))), leavesOf(3, 2, text(entries(5, 3)))))
	want[0], want[10], want[15] = cover(4, 8), mixed(2), mixed(3)
	if d.Turns() != turns+6 || l.Blank() != 8 || len(d.Afloat()) != 0 {
		t.Errorf("%d turns, %d blank, afloat %v", d.Turns()-turns, l.Blank(), d.Afloat())
	}
	mustHold(t, "balanced", tracks(t, d), want)
	mustHold(t, "home", homes(t, l), want[10:])
	// what was written in the round that is over is not laid again
	turns = d.Turns()
	must(t, "Write", l.Write(entries(2, 4)))
	must(t, "Balance", l.Balance())
	if d.Turns() != turns+2+5 {
		t.Errorf("the next round: %d turns", d.Turns()-turns)
	}
}

// The order of a Balance: the leaves are sure ahead of home, home ahead of the cover.
func TestBalanceBreaks(t *testing.T) {
	for after, afloat := range [][]int{{2, 3, 4, 5, 6, 7}, {}, {10}, {10, 12}, {10, 12, 15}, {}, {1}} {
		d, l := made(t, 16, 8)
		must(t, "Write", l.Write(entries(5, 1, 0, 2)))
		must(t, "Write", l.Write(entries(2, 3)))
		d.Break(after)
		if e := l.Balance(); e != api.ErrDown || !slices.Equal(d.Afloat(), afloat) {
			t.Errorf("%d turns: %d, afloat %v, not %v", after, e, d.Afloat(), afloat)
		}
		mustBeLost(t, "broken", d, l)
		if l.Blank() != 2 || l.Home() != 6 {
			t.Errorf("%d turns: %d blank", after, l.Blank())
		}
		d.Fall(nil, -1, 0)
		mustBeLost(t, "fallen", d, l)
		want := blanks(6)
		if after > 0 {
			want = behind(want, entries(5, 1, 0, 2, 2, 3))
		}
		mustHold(t, "opened", homes(t, opened(t, d)), want)
		mustBeLost(t, "another one is open", d, l)
	}
}

// A drum that breaks under any of the calls, at each turn of it.
func TestLost(t *testing.T) {
	for name, c := range map[string]struct {
		turns int
		call  func(l *Ledger) api.Errno
	}{
		"Write":              {2, func(l *Ledger) api.Errno { return l.Write(entries(3, 9)) }},
		"a Write of three":   {5 + 6, func(l *Ledger) api.Errno { return l.Write(many(3, 9)) }},
		"Settle":             {1, func(l *Ledger) api.Errno { return l.Settle() }},
		"Balance":            {6, func(l *Ledger) api.Errno { return l.Balance() }},
		"Look of no writing": {0, func(l *Ledger) api.Errno { _, e := l.Look(3); return e }},
	} {
		for after := range max(1, c.turns) {
			d, l := made(t, 14, 7)
			must(t, "Write", l.Write(entries(0, 1, 1, 2)))
			d.Break(after)
			if name == "Look of no writing" {
				d.Settle()
			}
			if l.Lost() {
				t.Fatalf("%s: lost ahead", name)
			}
			if e := c.call(l); e != api.ErrDown {
				t.Errorf("%s, %d turns: %d", name, after, e)
			}
			mustBeLost(t, name, d, l)
			d.Fall(nil, -1, 0)
			mustBeLost(t, name+", fallen", d, l)
		}
		d, l := made(t, 14, 7)
		must(t, "Write", l.Write(entries(0, 1, 1, 2)))
		d.Break(c.turns)
		if e := c.call(l); e != api.OK || l.Lost() {
			t.Errorf("%s: with turns enough: %d", name, e)
		}
	}
}

// Where a Write is not done, no later call tells that it was begun, but that the ledger is lost; where its Balance
// was, that is told.
func TestBlankOfLost(t *testing.T) {
	for after, blank := range []int{3, 3, 3, 3, 3, 3, 7, 7, 7, 7, 7} {
		d, l := made(t, 14, 7)
		must(t, "Write", l.Write(entries(0, 1, 1, 2)))
		d.Break(after)
		if e := l.Write(many(3, 9)); e != api.ErrDown || l.Blank() != blank || l.Home() != 5 {
			t.Errorf("%d turns: %d, %d blank, not %d", after, e, l.Blank(), blank)
		}
	}
}

func TestOfNil(t *testing.T) {
	var l *Ledger
	if l.Home() != 0 || l.Blank() != 0 || l.Lost() {
		t.Errorf("%d, %d, %t", l.Home(), l.Blank(), l.Lost())
	}
	if b, e := l.Look(0); b != nil || e != api.ErrArg {
		t.Errorf("Look: %x, %d", b, e)
	}
	if a, b, c, d := l.Write(nil), l.Write(entries(0, 1)), l.Settle(), l.Balance(); a != api.ErrArg || b != api.ErrArg || c != api.ErrArg || d != api.ErrArg {
		t.Errorf("%d, %d, %d, %d", a, b, c, d)
	}
}

// R2: what is handed in is neither changed nor kept; what is answered is new.
func TestMemoryIsApart(t *testing.T) {
	d, l := made(t, 16, 8)
	room := slices.Concat(of(1), of(2), of(3), of(4))
	e := []Entry{{At: 4, B: room[:96]}, {At: 1, B: room[96:192:200]}, {At: 7, B: room[200:296]}}
	ahead, list := bytes.Clone(room), slices.Clone(e)
	calls := []func(){
		func() { must(t, "Write", l.Write(e[:2])) },
		func() { l.Write(e) },
		func() { l.Write(e[:0]) },
		func() { must(t, "Settle", l.Settle()) },
		func() { must(t, "Balance", l.Balance()) },
	}
	for k, call := range calls {
		call()
		if !bytes.Equal(room, ahead) {
			t.Errorf("call %d: the bytes were changed", k)
		}
		for n := range list {
			if e[n].At != list[n].At || &e[n].B[0] != &list[n].B[0] || len(e[n].B) != len(list[n].B) || cap(e[n].B) != cap(list[n].B) {
				t.Errorf("call %d: entry %d was changed", k, n)
			}
		}
	}
	must(t, "Write", l.Write(e[:2]))
	scribble(room)
	e[0], e[1] = Entry{}, Entry{}
	want := behind(blanks(6), []Entry{{At: 4, B: of(1)}, {At: 1, B: of(2)}})
	mustHold(t, "not kept", homes(t, l), want)
	for range 2 {
		for k := range l.Home() {
			b, _ := l.Look(k)
			scribble(b)
		}
		mustHold(t, "new memory", homes(t, l), want)
		must(t, "Balance", l.Balance())
	}
	mustHold(t, "opened", homes(t, opened(t, d)), want)
}

// Entries may share their bytes.
func TestEntriesThatShare(t *testing.T) {
	d, l := made(t, 16, 8)
	b := mixed(5)
	must(t, "Write", l.Write([]Entry{{0, b}, {1, b}, {5, b}}))
	scribble(b)
	x, _ := l.Look(0)
	scribble(x)
	want := behind(blanks(6), entries(0, 5, 1, 5, 5, 5))
	mustHold(t, "home", homes(t, l), want)
	mustHold(t, "opened", homes(t, opened(t, d)), want)
}

// R7: ledgers of two drums, told in turn.
func TestLedgersAreApart(t *testing.T) {
	da, a := made(t, 16, 8)
	db, b := made(t, 20, 9)
	must(t, "Write", a.Write(entries(0, 1)))
	must(t, "Write", b.Write(entries(0, 2, 8, 3)))
	da.Break(0)
	if e := a.Balance(); e != api.ErrDown || !a.Lost() || b.Lost() {
		t.Errorf("%d, %t", e, b.Lost())
	}
	must(t, "Balance", b.Balance())
	mustHold(t, "the other", homes(t, b), behind(blanks(9), entries(0, 2, 8, 3)))
	da.Fall(nil, -1, 0)
	mustHold(t, "the lost one", homes(t, opened(t, da)), blanks(6))
	mustHold(t, "the other, opened", homes(t, opened(t, db)), behind(blanks(9), entries(0, 2, 8, 3)))
}
