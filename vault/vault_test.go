package vault_test

import (
	"bytes"
	"math"
	"slices"
	"strconv"
	"testing"

	"lariat/api"
	"lariat/drum"
	"lariat/seal"
	"lariat/vault"
)

// The chapter's examples, the edges, and numbers of no list of bytes.
func TestTakes(t *testing.T) {
	for _, c := range []struct{ n, want int }{
		{0, 1}, {80, 1}, {81, 2},
		{1, 1}, {79, 1}, {160, 2}, {161, 3}, {59999, 750}, {api.MaxBytes, 750}, {api.MaxBytes + 1, 751},
		{-1, 0}, {-80, 0}, {-81, 0}, {math.MinInt, 0},
		{1 << 62, 1<<62/80 + 1}, {math.MaxInt - 47, math.MaxInt / 80}, {math.MaxInt - 46, math.MaxInt/80 + 1}, {math.MaxInt, math.MaxInt/80 + 1},
	} {
		if got := vault.Takes(c.n); got != c.want {
			t.Errorf("Takes(%d): %d, must be %d", c.n, got, c.want)
		}
	}
}

func TestFoundOfWhatMayNotBe(t *testing.T) {
	mustBe(t, "a nil drum", vault.Found(nil, 5), api.ErrArg)
	for _, c := range []struct {
		tracks, leaves int
		want           api.Errno
	}{
		{20, 4, api.ErrArg}, {20, 5, api.OK}, {20, 16, api.OK}, {20, 17, api.ErrArg}, {20, 0, api.ErrArg}, {20, -5, api.ErrArg},
		{20, math.MaxInt, api.ErrArg}, {20, math.MinInt, api.ErrArg}, {10, 5, api.OK}, {10, 6, api.OK}, {10, 7, api.ErrArg},
		{api.MaxTracks, api.MaxTracks - 4, api.OK}, {api.MaxTracks, api.MaxTracks - 3, api.ErrArg},
	} {
		d := newDrum(t, c.tracks)
		must(t, "drum.Lay", d.Lay(9, mixed(api.Track, 1)))
		was, turns := tracks(t, d), d.Turns()
		name := "Found of " + strconv.Itoa(c.tracks) + ", " + strconv.Itoa(c.leaves)
		mustBe(t, name, vault.Found(d, c.leaves), c.want)
		if c.want != api.OK {
			mustBeAs(t, name, d, was, turns)
			continue
		}
		if v := opened(t, d); v.Tracks() != c.tracks-2-c.leaves || v.Free() != v.Tracks()-1 {
			t.Errorf("%s: %d tracks, %d free", name, v.Tracks(), v.Free())
		}
	}
}

func TestFoundWhereTheDrumBreaks(t *testing.T) {
	for after := 0; ; after++ {
		d := newDrum(t, 20)
		d.Break(after)
		e := vault.Found(d, 8)
		if e == api.OK {
			if after < 12 {
				t.Errorf("only %d turns", after)
			}
			return
		}
		if e != api.ErrDown || !d.Broken() || d.Turns() != after {
			t.Fatalf("broken behind %d turns: %d", after, e)
		}
		mustBe(t, "Found of a broken drum", vault.Found(d, 8), api.ErrDown)
		mustBe(t, "Found of a broken drum, ErrArg first", vault.Found(d, 4), api.ErrArg)
		d.Fall([]int{0, 2}, 1, 50)
		must(t, "Found behind a Fall", vault.Found(d, 8))
		mustHold(t, "Found behind a Fall", opened(t, d), held{})
	}
}

func TestFoundIsSure(t *testing.T) {
	d := newDrum(t, 20)
	must(t, "Found", vault.Found(d, 8))
	if len(d.Afloat()) != 0 {
		t.Errorf("afloat: %v", d.Afloat())
	}
	d.Fall(nil, 0, 40)
	mustHold(t, "behind a Fall", opened(t, d), held{})
}

// Behind a Found no leaf is needed any more.
func TestFoundIsLaidHome(t *testing.T) {
	d := newDrum(t, 20)
	must(t, "Found", vault.Found(d, 8))
	for k := range 8 {
		must(t, "drum.Lay", d.Lay(2+k, mixed(api.Track, k)))
	}
	mustHold(t, "without leaves", opened(t, d), held{})
}

// Whatever a drum holds, a vault is founded on it; and none of what stood there is a record.
func TestFoundOverOldBytes(t *testing.T) {
	d, _ := filled(t, 12, 30, held{1: "old", 2: string(mixed(300, 1)), 40: ""})
	must(t, "Found", vault.Found(d, 30))
	mustHold(t, "over a vault", opened(t, d), held{})
	must(t, "Found", vault.Found(d, 20))
	v := opened(t, d)
	mustHold(t, "over a vault with more leaves", v, held{})
	must(t, "Put", v.Put(3, mixed(21*80, 2)))
	if v.Free() != 0 {
		t.Errorf("%d free", v.Free())
	}
	for seed := range 20 {
		junk := make([][]byte, 24)
		for k := range junk {
			junk[k] = mixed(api.Track, seed*100+k)
		}
		d := laidOut(t, junk)
		must(t, "Found", vault.Found(d, 7))
		mustHold(t, "over any bytes", opened(t, d), held{})
	}
}

func TestNoRecords(t *testing.T) {
	d, v := made(t, 9, 6)
	turns := d.Turns()
	if v.Tracks() != 9 || v.Free() != 8 || len(v.IDs()) != 0 || v.Lost() {
		t.Errorf("%d tracks, %d free, IDs %v, Lost: %v", v.Tracks(), v.Free(), v.IDs(), v.Lost())
	}
	for _, id := range []int{0, 1, 40, 41, -1, math.MaxInt, math.MinInt} {
		if b, is := v.Get(id); is || b != nil || v.Drop(id) {
			t.Errorf("record %d: %x", id, b)
		}
	}
	v.Undo()
	must(t, "Keep", v.Keep())
	if d.Turns() != turns {
		t.Error("nothing was turned, but the drum was")
	}
	mustHold(t, "no records", v, held{})
}

// Each track that is taken is one that seal.Open opens: on a drum of tracks that were none, so many are.
func TestTakenTracksAreClosed(t *testing.T) {
	junk := make([][]byte, 40)
	for k := range junk {
		junk[k] = mixed(api.Track, k)
	}
	d := laidOut(t, junk)
	must(t, "Found", vault.Found(d, 16))
	v := opened(t, d)
	for _, n := range []int{0, 79, 80, 81, 240, 401} {
		must(t, "Put", v.Put(40-n%40, mixed(n, n)))
		must(t, "Keep", v.Keep())
		must(t, "Close", v.Close())
		if got := closedTracks(t, d, 18); got < v.Tracks()-v.Free() {
			t.Errorf("%d closed tracks, %d are taken", got, v.Tracks()-v.Free())
		}
	}
}

// closedTracks answers how many of a drum's tracks seal.Open opens, from one on.
func closedTracks(t *testing.T, d *drum.Drum, from int) int {
	t.Helper()
	n := 0
	for _, b := range tracks(t, d)[from:] {
		if _, ok := seal.Open(b); ok {
			n++
		}
	}
	return n
}

func TestPutOfWhatMayNotBe(t *testing.T) {
	d, v := filled(t, 9, 30, held{1: "one", 7: string(mixed(161, 7)), 40: ""})
	want := told(t, v)
	was, turns := tracks(t, d), d.Turns()
	for k, c := range []struct {
		id, n int
		want  api.Errno
	}{
		{0, 1, api.ErrArg}, {-1, 1, api.ErrArg}, {41, 1, api.ErrArg}, {math.MaxInt, 1, api.ErrArg}, {math.MinInt, 1, api.ErrArg},
		{0, api.MaxBytes, api.ErrArg}, {41, api.MaxBytes + 1, api.ErrArg},
		{1, api.MaxBytes + 1, api.ErrArg}, {2, api.MaxBytes + 1, api.ErrArg},
		{1, api.MaxBytes, api.ErrFull}, {2, api.MaxBytes, api.ErrFull},
		{2, 241, api.ErrFull}, {1, 321, api.ErrFull}, {40, 321, api.ErrFull}, {7, 481, api.ErrFull},
	} {
		mustBe(t, "Put "+strconv.Itoa(k), v.Put(c.id, make([]byte, c.n)), c.want)
		mustHold(t, "behind a Put that was refused", v, want)
	}
	must(t, "Keep", v.Keep())
	mustBeAs(t, "Keep", d, was, turns)
	d.Break(0)
	mustBe(t, "Settle", v.Settle(), api.ErrDown)
	for k, c := range []struct {
		id, n int
		want  api.Errno
	}{
		{0, 1, api.ErrArg}, {41, 1, api.ErrArg}, {2, api.MaxBytes + 1, api.ErrArg},
		{2, 1, api.ErrDown}, {2, api.MaxBytes, api.ErrDown}, {2, 241, api.ErrDown}, {1, 3, api.ErrDown}, {40, 0, api.ErrDown},
	} {
		mustBe(t, "Put when lost "+strconv.Itoa(k), v.Put(c.id, make([]byte, c.n)), c.want)
		mustHold(t, "behind a Put when lost", v, want)
	}
	mustBe(t, "Put of the bytes that it has, when lost", v.Put(1, []byte("one")), api.ErrDown)
}

// Just as many tracks as there are, and one more; so for one that is put over another one.
func TestPutUpToTheLastTrack(t *testing.T) {
	for tracks := 2; tracks <= 30; tracks++ {
		_, v := made(t, tracks, 60)
		all := (tracks - 1) * 80
		mustBe(t, "one byte more", v.Put(3, make([]byte, all+1)), api.ErrFull)
		mustHold(t, "one byte more", v, held{})
		must(t, "just as many", v.Put(3, mixed(all, 3)))
		want := held{3: string(mixed(all, 3))}
		mustHold(t, "just as many", v, want)
		mustBe(t, "one more record", v.Put(4, nil), api.ErrFull)
		mustBe(t, "one byte more over it", v.Put(3, make([]byte, all+1)), api.ErrFull)
		mustHold(t, "refused", v, want)
		must(t, "as many over it", v.Put(3, mixed(all-79, 5)))
		must(t, "Keep", v.Keep())
		mustHold(t, "as many over it", v, held{3: string(mixed(all-79, 5))})
		must(t, "shorter", v.Put(3, nil))
		if v.Free() != tracks-2 {
			t.Errorf("%d of %d free", v.Free(), tracks)
		}
	}
}

// A record of the most bytes, and one more on all tracks that are left.
func TestPutOfTheMostBytes(t *testing.T) {
	d, v := made(t, 1600, 1300)
	for _, id := range []int{1, 40} {
		must(t, "Put", v.Put(id, mixed(api.MaxBytes, id)))
		must(t, "Keep", v.Keep())
	}
	must(t, "Put", v.Put(20, mixed(99*80, 20)))
	mustBe(t, "Put", v.Put(21, nil), api.ErrFull)
	must(t, "Keep", v.Keep())
	want := held{1: string(mixed(api.MaxBytes, 1)), 40: string(mixed(api.MaxBytes, 40)), 20: string(mixed(99*80, 20))}
	mustHold(t, "kept", v, want)
	mustHold(t, "opened", opened(t, d), want)
	v = opened(t, d)
	must(t, "Put", v.Put(1, mixed(api.MaxBytes-1, 2)))
	must(t, "Keep", v.Keep())
	must(t, "Close", v.Close())
	mustHold(t, "closed", opened(t, d), want.with(1, mixed(api.MaxBytes-1, 2)))
}

func TestAllNumbers(t *testing.T) {
	d, v := made(t, 90, 160)
	want := held{}
	for k := range api.MaxRecord {
		id := 1 + k*7%api.MaxRecord
		b := mixed(k*4, k)
		must(t, "Put", v.Put(id, b))
		want = want.with(id, b)
		mustHold(t, "Put", v, want)
	}
	must(t, "Keep", v.Keep())
	mustHold(t, "opened", opened(t, d), want)
	v = opened(t, d)
	for k := range api.MaxRecord {
		id := 1 + k*11%api.MaxRecord
		if !v.Drop(id) || v.Drop(id) {
			t.Errorf("Drop(%d)", id)
		}
		want = want.without(id)
		mustHold(t, "Drop", v, want)
		if k%7 == 0 {
			must(t, "Keep", v.Keep())
			mustHold(t, "opened behind a Drop", opened(t, d), want)
			v = opened(t, d)
		}
	}
}

// Records put over others, longer and shorter, among others that are not touched, kept and not kept between.
func TestPutOverAnother(t *testing.T) {
	lengths := []int{0, 1, 80, 81, 400, 79, 800, 160, 161, 0, 240, 5}
	for every := 1; every <= 4; every++ {
		d, v := filled(t, 20, 40, held{1: "first", 40: "last"})
		want := told(t, v)
		for k, n := range lengths {
			b := mixed(n, k)
			must(t, "Put", v.Put(20, b))
			want = want.with(20, b)
			mustHold(t, "Put", v, want)
			if k%every == 0 {
				must(t, "Keep", v.Keep())
				mustHold(t, "Keep", v, want)
				mustHold(t, "opened", opened(t, d), want)
				v = opened(t, d)
			}
		}
	}
}

func TestPutOfTheSameBytesIsNoTurn(t *testing.T) {
	h := held{1: "", 2: string(mixed(80, 2)), 3: string(mixed(333, 3))}
	d, v := filled(t, 12, 30, h)
	turns := d.Turns()
	for id, b := range h {
		must(t, "Put", v.Put(id, []byte(b)))
	}
	must(t, "Put of nil for no bytes", v.Put(1, nil))
	must(t, "Keep", v.Keep())
	if d.Turns() != turns {
		t.Error("the bytes that they have: the drum was turned")
	}
	mustHold(t, "the same bytes", v, h)
	must(t, "Put", v.Put(2, append(mixed(79, 2), 0)))
	must(t, "Keep", v.Keep())
	if d.Turns() == turns {
		t.Error("other bytes: the drum was not turned")
	}
}

// 0s behind a record's bytes are not those bytes.
func TestLengthIsKept(t *testing.T) {
	d, v := made(t, 12, 30)
	for _, n := range []int{0, 1, 2, 79, 80, 81, 82, 80, 79, 1, 0} {
		must(t, "Put", v.Put(5, make([]byte, n)))
		must(t, "Keep", v.Keep())
		mustHold(t, strconv.Itoa(n), opened(t, d), held{5: string(make([]byte, n))})
		v = opened(t, d)
	}
}

// A Keep is one Write: leaves that are laid, not settled, and nothing else.
func TestKeepIsOneWrite(t *testing.T) {
	d, v := made(t, 30, 60)
	for k, h := range []held{{1: "a"}, {2: "b", 3: string(mixed(200, 1))}, {1: "c", 2: "d", 4: ""}} {
		turns, afloat := d.Turns(), len(d.Afloat())
		for id, b := range h {
			must(t, "Put", v.Put(id, []byte(b)))
		}
		if d.Turns() != turns {
			t.Errorf("%d: a Put turned the drum", k)
		}
		must(t, "Keep", v.Keep())
		laid := len(d.Afloat()) - afloat
		if laid < 1 || d.Turns() != turns+laid {
			t.Errorf("%d: %d turns, %d afloat", k, d.Turns()-turns, laid)
		}
	}
}

// A vault needs no more leaves than its own track and those that were put take.
func TestKeepTakesNoMoreThanWasTurned(t *testing.T) {
	for tracks := 3; tracks < 40; tracks++ {
		leaves := (2 + 98*tracks + 63) / 64
		_, v := made(t, tracks, max(leaves, 5))
		must(t, "Put", v.Put(9, mixed((tracks-1)*80, 1)))
		must(t, "Keep of all tracks", v.Keep())
		must(t, "Put", v.Put(9, mixed((tracks-1)*80, 2)))
		must(t, "Keep of all tracks again", v.Keep())
	}
	_, v := filled(t, 30, 12, held{1: "a"})
	for id := 2; id < 25; id++ {
		must(t, "Put", v.Put(id, mixed(80, id)))
		must(t, "Keep of one more", v.Keep())
	}
	for id := 2; id < 25; id++ {
		v.Drop(id)
		must(t, "Keep of one less", v.Keep())
	}
	mustHold(t, "dropped", v, held{1: "a"})
}

func TestKeepOfTooMuch(t *testing.T) {
	h := held{1: string(mixed(100, 1)), 2: "two"}
	d, v := filled(t, 60, 12, h)
	was, turns, afloat := tracks(t, d), d.Turns(), d.Afloat()
	for name, turn := range map[string]func() api.Errno{
		"one record":       func() api.Errno { return v.Put(3, mixed(2000, 3)) },
		"over another one": func() api.Errno { return v.Put(2, mixed(2000, 3)) },
		"one of many": func() api.Errno {
			v.Drop(1)
			v.Put(2, []byte("x"))
			v.Put(40, nil)
			return v.Put(39, mixed(1000, 3))
		},
	} {
		must(t, name, turn())
		mustBe(t, name, v.Keep(), api.ErrBig)
		mustHold(t, name, v, h)
		must(t, "Keep behind it", v.Keep())
		mustBeAs(t, name, d, was, turns)
		if !slices.Equal(d.Afloat(), afloat) || v.Lost() {
			t.Errorf("%s: afloat %v", name, d.Afloat())
		}
	}
	must(t, "Put", v.Put(3, mixed(200, 3)))
	must(t, "Keep", v.Keep())
	mustHold(t, "behind ErrBig", v, h.with(3, mixed(200, 3)))
	mustHold(t, "opened", opened(t, d), h.with(3, mixed(200, 3)))
}

// ErrDown of a lost vault goes ahead of ErrBig: nothing is undone.
func TestKeepOfTooMuchWhenLost(t *testing.T) {
	d, v := filled(t, 60, 12, held{1: "a"})
	must(t, "Put", v.Put(3, mixed(2000, 3)))
	d.Break(0)
	mustBe(t, "Settle", v.Settle(), api.ErrDown)
	mustBe(t, "Keep", v.Keep(), api.ErrDown)
	mustHold(t, "lost", v, held{1: "a", 3: string(mixed(2000, 3))})
}

func TestUndo(t *testing.T) {
	h := held{1: string(mixed(100, 1)), 2: "two", 3: ""}
	d, v := filled(t, 12, 40, h)
	was, turns := tracks(t, d), d.Turns()
	for name, turn := range map[string]func(){
		"nothing":      func() {},
		"a Put":        func() { v.Put(9, mixed(300, 9)) },
		"a Put over":   func() { v.Put(1, nil) },
		"a longer one": func() { v.Put(2, mixed(500, 2)) },
		"Drops":        func() { v.Drop(1); v.Drop(3) },
		"a Drop, and a Put": func() {
			v.Drop(1)
			v.Put(1, []byte("again"))
		},
		"a Put, and a Drop": func() { v.Put(7, mixed(200, 1)); v.Drop(7) },
		"all tracks":        func() { v.Put(7, make([]byte, 80*v.Free())) },
		"a Put refused":     func() { v.Put(7, make([]byte, 80*v.Free()+1)) },
	} {
		turn()
		v.Undo()
		mustHold(t, name, v, h)
		v.Undo()
		mustHold(t, name, v, h)
		must(t, "Keep", v.Keep())
		mustBeAs(t, name, d, was, turns)
	}
	must(t, "Put", v.Put(9, []byte("nine")))
	must(t, "Keep", v.Keep())
	v.Undo()
	mustHold(t, "kept ahead of it", v, h.with(9, []byte("nine")))
	v.Drop(9)
	must(t, "Settle", v.Settle())
	must(t, "Close", v.Close())
	v.Undo()
	mustHold(t, "a Settle and a Close are no Keep", v, h.with(9, []byte("nine")))
}

// What is not kept is in the vault alone: a Settle and a Close leave it there.
func TestNotKept(t *testing.T) {
	d, v := filled(t, 12, 40, held{1: "one"})
	must(t, "Put", v.Put(2, []byte("two")))
	v.Drop(1)
	must(t, "Settle", v.Settle())
	must(t, "Close", v.Close())
	mustHold(t, "not kept", v, held{2: "two"})
	mustHold(t, "opened", opened(t, d), held{1: "one"})
}

func TestSettle(t *testing.T) {
	d, v := made(t, 12, 40)
	must(t, "Put", v.Put(1, []byte("one")))
	must(t, "Keep", v.Keep())
	must(t, "Put", v.Put(2, []byte("two")))
	must(t, "Keep", v.Keep())
	turns := d.Turns()
	must(t, "Settle", v.Settle())
	if d.Turns() != turns+1 || len(d.Afloat()) != 0 {
		t.Errorf("Settle: %d turns, afloat %v", d.Turns()-turns, d.Afloat())
	}
	must(t, "Put", v.Put(3, []byte("three")))
	must(t, "Keep", v.Keep())
	d.Fall(nil, -1, 0)
	mustHold(t, "what was settled", opened(t, d), held{1: "one", 2: "two"})
}

// Behind a Close no leaf is needed any more.
func TestClose(t *testing.T) {
	h := held{1: string(mixed(100, 1)), 8: string(mixed(241, 8))}
	d, v := filled(t, 12, 40, h)
	must(t, "Put", v.Put(2, []byte("two")))
	must(t, "Keep", v.Keep())
	must(t, "Close", v.Close())
	if len(d.Afloat()) != 0 {
		t.Errorf("afloat: %v", d.Afloat())
	}
	for k := range 40 {
		must(t, "drum.Lay", d.Lay(2+k, mixed(api.Track, k)))
	}
	want := h.with(2, []byte("two"))
	mustHold(t, "without leaves", opened(t, d), want)
	must(t, "Close again", opened(t, d).Close())
	mustHold(t, "closed again", opened(t, d), want)
	v = opened(t, d)
	must(t, "Close", v.Close())
	must(t, "Put", v.Put(3, nil))
	must(t, "Keep behind a Close", v.Keep())
	must(t, "Settle", v.Settle())
	d.Fall(nil, -1, 0)
	mustHold(t, "kept behind a Close", opened(t, d), want.with(3, nil))
}

// The drum breaks at each turn of a Keep, a Settle and a Close: then each call answers that the vault is lost, and the
// records are as they were Put.
func TestLost(t *testing.T) {
	h := held{1: string(mixed(100, 1)), 2: "two"}
	put := h.with(3, mixed(300, 3)).without(2)
	for name, call := range map[string]func(v *vault.Vault) api.Errno{
		"Keep":   (*vault.Vault).Keep,
		"Settle": (*vault.Vault).Settle,
		"Close":  (*vault.Vault).Close,
	} {
		for after := 0; ; after++ {
			// 14 leaves: the Keep Balances first, as those of the first one leave it too few.
			d, v := filled(t, 12, 14, h)
			must(t, "Put", v.Put(3, mixed(300, 3)))
			v.Drop(2)
			d.Break(after)
			e := call(v)
			if e == api.OK {
				if after < 1 || name == "Keep" && after < 10 || name == "Close" && after < 5 {
					t.Errorf("%s: only %d turns", name, after)
				}
				break
			}
			mustBe(t, name, e, api.ErrDown)
			mustBeLost(t, name, v, put)
			v.Undo()
			mustHold(t, "Undo when lost", v, h)
			if !v.Drop(1) || v.Drop(1) || v.Drop(2) != true {
				t.Error("Drop when lost")
			}
			mustHold(t, "Drop when lost", v, held{})
			v.Undo()
			mustHold(t, "Undo when lost", v, h)
			if _, e := vault.Open(d); e != api.ErrDown {
				t.Errorf("Open of a broken drum: %d", e)
			}
			d.Fall(nil, -1, 0)
			mustBe(t, "Settle of a lost one behind the Fall", v.Settle(), api.ErrDown)
			mustHold(t, "opened", opened(t, d), h)
		}
	}
}

// mustBeLost asks what each call answers of a lost vault that has something to Keep.
func mustBeLost(t *testing.T, name string, v *vault.Vault, h held) {
	t.Helper()
	if !v.Lost() {
		t.Errorf("%s: not Lost", name)
	}
	mustBe(t, name+": Put of a number that may not be", v.Put(0, nil), api.ErrArg)
	mustBe(t, name+": Put", v.Put(5, nil), api.ErrDown)
	mustBe(t, name+": Put of too much", v.Put(5, make([]byte, api.MaxBytes)), api.ErrDown)
	mustBe(t, name+": Keep", v.Keep(), api.ErrDown)
	mustBe(t, name+": Settle", v.Settle(), api.ErrDown)
	mustBe(t, name+": Close", v.Close(), api.ErrDown)
	mustHold(t, name, v, h)
}

func TestNilVault(t *testing.T) {
	var v *vault.Vault
	for name, e := range map[string]api.Errno{"Put": v.Put(1, nil), "Keep": v.Keep(), "Settle": v.Settle(), "Close": v.Close()} {
		mustBe(t, name, e, api.ErrArg)
	}
	v.Undo()
	if b, is := v.Get(1); is || b != nil || v.Drop(1) || v.IDs() != nil || v.Tracks() != 0 || v.Free() != 0 || v.Lost() {
		t.Error("a nil vault answered")
	}
}

// Of one that no call made nothing is promised, but that no call panics.
func TestZeroVault(t *testing.T) {
	v := &vault.Vault{}
	v.Put(1, []byte("a"))
	v.Put(0, nil)
	v.Get(1)
	v.Drop(1)
	v.IDs()
	v.Tracks()
	v.Free()
	v.Keep()
	v.Undo()
	v.Settle()
	v.Close()
	v.Lost()
}

// R2: bytes that are handed in are not changed, with their spare room, and not kept.
func TestPutTakesACopy(t *testing.T) {
	for _, n := range []int{0, 1, 80, 81, 300} {
		d, v := made(t, 12, 40)
		room := mixed(n+200, n)
		b, was := room[:n], slices.Clone(room)
		must(t, "Put", v.Put(1, b))
		must(t, "Keep", v.Keep())
		must(t, "Close", v.Close())
		if !bytes.Equal(room, was) {
			t.Errorf("%d bytes: changed", n)
		}
		scribble(b)
		want := held{1: string(was[:n])}
		mustHold(t, "scribbled over", v, want)
		must(t, "Keep", v.Keep())
		v = opened(t, d)
		mustHold(t, "opened", v, want)
		now := slices.Clone(room[:n])
		must(t, "Put", v.Put(2, room[:n]))
		scribble(room)
		must(t, "Keep", v.Keep())
		mustHold(t, "scribbled over ahead of the Keep", opened(t, d), want.with(2, now))
	}
}

// R2: answers are new memory, with their spare room.
func TestAnswersAreNew(t *testing.T) {
	h := held{1: string(mixed(100, 1)), 2: string(mixed(80, 2)), 3: "", 7: string(mixed(161, 7))}
	_, v := filled(t, 20, 40, h)
	for range 2 {
		for _, id := range v.IDs() {
			a, _ := v.Get(id)
			b, _ := v.Get(id)
			scribble(a)
			if string(b) != h[id] {
				t.Errorf("record %d: two answers share memory", id)
			}
			scribble(b)
		}
		ids := v.IDs()
		for k := range ids[:cap(ids)] {
			ids[:cap(ids)][k] = -7
		}
		mustHold(t, "scribbled over", v, h)
		v.Undo()
		mustHold(t, "Undo behind it", v, h)
		must(t, "Put", v.Put(1, []byte(h[1])))
	}
}

// R4: the same calls leave the same drum; R7: and another vault beside it is not touched.
func TestTheSameAgain(t *testing.T) {
	a, v := made(t, 20, 30)
	b, w := made(t, 20, 30)
	c, _ := filled(t, 20, 30, held{1: "beside"})
	was, turns := tracks(t, c), c.Turns()
	x, y := dice(3), dice(3)
	for range 300 {
		someCall(&x, v)
		someCall(&y, w)
	}
	if a.Turns() != b.Turns() || !slices.EqualFunc(tracks(t, a), tracks(t, b), bytes.Equal) {
		t.Error("the same calls, and another drum")
	}
	mustHold(t, "the same calls", v, told(t, w))
	mustBeAs(t, "another drum", c, was, turns)
}

func someCall(x *dice, v *vault.Vault) {
	switch id := 1 + x.below(9); x.below(9) {
	case 0:
		v.Drop(id)
	case 1:
		v.Undo()
	case 2:
		v.Settle()
	case 3, 4:
		v.Keep()
	case 5:
		if id == 1 {
			v.Close()
		}
	default:
		v.Put(id, mixed(x.below(400), x.below(1000)))
	}
}
