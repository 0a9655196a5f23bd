package vault_test

import (
	"slices"
	"strings"
	"testing"

	"lariat/api"
	"lariat/drum"
	"lariat/ledger"
	"lariat/seal"
	"lariat/vault"
)

// mustNotOpen asks that an Open answers an error, and no vault.
func mustNotOpen(t *testing.T, name string, d *drum.Drum, want api.Errno) {
	t.Helper()
	if v, e := vault.Open(d); v != nil || e != want {
		t.Errorf("Open of %s: %d, must be %d", name, e, want)
	}
}

func TestOpenOfWhatMayNotBe(t *testing.T) {
	mustNotOpen(t, "a nil drum", nil, api.ErrArg)
	mustNotOpen(t, "a new drum", newDrum(t, 20), api.ErrCorrupt)
	d := newDrum(t, 20)
	d.Break(0)
	d.Settle()
	mustNotOpen(t, "a broken drum", d, api.ErrDown)
	d, _ = filled(t, 12, 30, held{1: "one"})
	for k := range 2 {
		must(t, "drum.Lay", d.Lay(k, make([]byte, api.Track)))
	}
	mustNotOpen(t, "a drum without covers", d, api.ErrCorrupt)
}

func TestOpenWhereTheDrumBreaks(t *testing.T) {
	h := held{1: "one", 2: string(mixed(300, 2))}
	for after := 0; ; after++ {
		d, _ := filled(t, 12, 30, h)
		d.Break(after)
		if v, e := vault.Open(d); e == api.OK {
			if after < 5 {
				t.Errorf("only %d turns", after)
			}
			mustHold(t, "not broken", v, h)
			return
		}
		mustNotOpen(t, "a broken drum", d, api.ErrDown)
		d.Fall(nil, 0, 50)
		mustHold(t, "opened behind it", opened(t, d), h)
	}
}

// closedTrack answers a closed track of these bytes.
func closedTrack(t *testing.T, b []byte) []byte {
	t.Helper()
	track, ok := seal.Close(b)
	if !ok {
		t.Fatalf("seal.Close of %d bytes", len(b))
	}
	return track
}

func TestOpenOfNoVault(t *testing.T) {
	blank, ones := make([]byte, api.Track), []byte(strings.Repeat("\x01", api.Track))
	for name, home := range map[string][][]byte{
		"blank tracks":           {blank, blank, blank, blank, blank},
		"two blank tracks":       {blank, blank, blank},
		"any bytes":              {mixed(api.Track, 1), mixed(api.Track, 2), mixed(api.Track, 3)},
		"1s":                     {ones, ones, ones, ones},
		"a closed text":          {closedTrack(t, []byte("no vault")), blank, blank},
		"any closed bytes":       {closedTrack(t, mixed(84, 1)), closedTrack(t, mixed(84, 2)), closedTrack(t, mixed(84, 3))},
		"a closed track of 0xFF": {closedTrack(t, []byte(strings.Repeat("\xff", 84))), blank, blank},
	} {
		d := onLedger(t, 6, home)
		mustNotOpen(t, name, d, api.ErrCorrupt)
		mustNotOpen(t, name+", again", d, api.ErrCorrupt)
		must(t, "Found over it", vault.Found(d, 6))
		mustHold(t, name, opened(t, d), held{})
	}
}

func TestOpenAgainAndAgain(t *testing.T) {
	for _, h := range []held{
		{},
		{1: ""},
		{40: "z"},
		{1: "a", 2: string(mixed(80, 2)), 3: string(mixed(81, 3)), 39: "", 40: string(mixed(1000, 4))},
	} {
		d, v := filled(t, 25, 60, h)
		for k := range 5 {
			mustHold(t, "opened again", v, h)
			if k == 2 {
				must(t, "Close", v.Close())
			}
			v = opened(t, d)
		}
	}
}

// The drum of a vault that was in use for long: its records are scattered over the tracks.
func scattered(t *testing.T, seed int) (*drum.Drum, held) {
	t.Helper()
	d, v := made(t, 24, 40)
	x := dice(seed)
	for range 60 {
		someCall(&x, v)
	}
	v.Undo()
	must(t, "Close", v.Close())
	return d, told(t, v)
}

// wrong answers a home track that may stand in the place of another, some of them closed.
func (x *dice) wrong(t *testing.T, home [][]byte, k int) []byte {
	t.Helper()
	b := slices.Clone(home[k])
	switch x.below(7) {
	case 0:
		return mixed(api.Track, x.below(1<<20))
	case 1:
		return closedTrack(t, mixed(x.below(85), x.below(1<<20)))
	case 2:
		return home[x.below(len(home))]
	case 3:
		b[x.below(api.Track)] ^= byte(1 + x.below(255))
		return b
	case 4:
		return make([]byte, api.Track)
	case 5:
		at := x.below(42) * 2
		b[at], b[at+1] = 0, byte(x.below(len(home)+2))
	default:
		at := x.below(84)
		b[at] = byte(x.below(256))
	}
	return closedTrack(t, b[:seal.Body])
}

// 6.3, W5: home tracks with others in their place: Open ends, and answers an error, or a vault whose records may be,
// and that is one to be used.
func TestOpenOfOtherTracks(t *testing.T) {
	right, corrupt, other := 0, 0, 0
	for seed := range 3000 {
		d, h := scattered(t, seed%40)
		all := tracks(t, d)
		home := all[42:]
		x := dice(seed * 31)
		for range 1 + x.below(3) {
			k := x.below(len(home))
			if x.below(3) == 0 {
				k = 0
			}
			home[k] = x.wrong(t, home, k)
		}
		d = laidOut(t, all)
		v, e := vault.Open(d)
		if e != api.OK {
			if e != api.ErrCorrupt || v != nil {
				t.Fatalf("seed %d: %d", seed, e)
			}
			mustNotOpen(t, "the same again", d, api.ErrCorrupt)
			corrupt++
			continue
		}
		got := told(t, v)
		if len(got) == len(h) {
			right++
		} else {
			other++
		}
		mustHold(t, "opened again", opened(t, d), got)
		v = opened(t, d)
		must(t, "Put", v.Put(1, nil))
		must(t, "Put", v.Put(1, mixed(80*(v.Free()+1), 1)))
		want := got.with(1, mixed(80*(v.Tracks()-got.without(1).takes()), 1))
		mustHold(t, "Put on it", v, want)
		if v.Keep() == api.OK {
			mustHold(t, "kept on it", opened(t, d), want)
		}
	}
	if right < 100 || corrupt < 100 {
		t.Errorf("%d right, %d corrupt, %d other", right, corrupt, other)
	}
}

// Tracks that lead to one another in a ring, to none, and to those of other records: made of all ways to set one small
// number in the closed tracks of a vault.
func TestOpenOfTurnedNumbers(t *testing.T) {
	d, v := made(t, 8, 20)
	h := held{1: string(mixed(170, 1)), 2: string(mixed(90, 2)), 40: ""}
	for id, b := range h {
		must(t, "Put", v.Put(id, []byte(b)))
	}
	must(t, "Keep", v.Keep())
	must(t, "Close", v.Close())
	all := tracks(t, d)
	for k := range 8 {
		for at := 0; at < seal.Body; at++ {
			for _, n := range []byte{0, 1, 2, 3, 4, 5, 6, 7, 8, 80, 255} {
				turned := slices.Clone(all)
				b := slices.Clone(all[22+k])
				b[at] = n
				turned[22+k] = closedTrack(t, b[:seal.Body])
				v, e := vault.Open(laidOut(t, turned))
				if e != api.OK && e != api.ErrCorrupt || (e == api.OK) != (v != nil) {
					t.Fatalf("track %d, at %d, %d: %d", k, at, n, e)
				}
				if v != nil {
					told(t, v)
				}
			}
		}
	}
}

// two answers n's bytes, the highest first.
func two(n int) []byte { return []byte{byte(n >> 8), byte(n)} }

// A vault whose record is longer than may be, all of its tracks closed, and just as this program lays them.
func TestOpenOfTooLongARecord(t *testing.T) {
	for _, n := range []int{api.MaxBytes, api.MaxBytes + 1, 1<<16 - 1} {
		last := vault.Takes(n)
		home := [][]byte{closedTrack(t, append([]byte("vlt1"), two(1)...))}
		for k := 1; k <= last; k++ {
			home = append(home, closedTrack(t, append(two((k+1)%(last+1)), two(n-80*(k-1))...)))
		}
		v, e := vault.Open(onLedger(t, 5, home))
		if e != api.OK && e != api.ErrCorrupt || (e == api.OK) != (v != nil) {
			t.Fatalf("%d bytes: %d", n, e)
		}
		if v != nil {
			told(t, v)
		}
	}
}

// Leaves with any bytes are no Keep, as long as the ledger takes none.
func TestOpenOfOtherLeaves(t *testing.T) {
	h := held{1: "one", 2: string(mixed(200, 2))}
	for seed := range 50 {
		d, v := filled(t, 12, 30, h)
		must(t, "Close", v.Close())
		x := dice(seed)
		for range 1 + x.below(30) {
			must(t, "drum.Lay", d.Lay(2+x.below(30), mixed(api.Track, x.below(1<<20))))
		}
		mustHold(t, "other leaves", opened(t, d), h)
	}
}

// A Write of something else to a vault's ledger is read as what then stands there.
func TestOpenBehindAnotherWrite(t *testing.T) {
	d, v := filled(t, 12, 30, held{1: "one"})
	must(t, "Close", v.Close())
	l, e := ledger.Open(d)
	must(t, "ledger.Open", e)
	for k := range l.Home() {
		must(t, "ledger.Write", l.Write([]ledger.Entry{{At: k, B: mixed(api.Track, k)}}))
	}
	mustNotOpen(t, "other tracks", d, api.ErrCorrupt)
}
