package vault_test

import (
	"bytes"
	"maps"
	"slices"
	"testing"

	"lariat/api"
	"lariat/drum"
	"lariat/ledger"
	"lariat/vault"
)

// held is what records there are: the bytes of each number.
type held map[int]string

// with answers the same records with one more, or with another in its place.
func (h held) with(id int, b []byte) held {
	out := maps.Clone(h)
	out[id] = string(b)
	return out
}

// without answers the same records but one.
func (h held) without(id int) held {
	out := maps.Clone(h)
	delete(out, id)
	return out
}

// takes is how many tracks the records take, and the vault for itself.
func (h held) takes() int {
	n := 1
	for _, b := range h {
		n += max(1, (len(b)+79)/80)
	}
	return n
}

// mixed answers n bytes that look like no pattern, always the same ones of a seed.
func mixed(n, seed int) []byte {
	b := make([]byte, n)
	x := uint32(seed)*2654435761 + 12345
	for k := range b {
		x = x*1664525 + 1013904223
		b[k] = byte(x >> 24)
	}
	return b
}

// scribble turns all bytes of b, its spare room included.
func scribble(b []byte) {
	b = b[:cap(b)]
	for k := range b {
		b[k] ^= 0x5A
	}
}

func must(t *testing.T, name string, e api.Errno) {
	t.Helper()
	if e != api.OK {
		t.Fatalf("%s: %d", name, e)
	}
}

func mustBe(t *testing.T, name string, e, want api.Errno) {
	t.Helper()
	if e != want {
		t.Errorf("%s: %d, must be %d", name, e, want)
	}
}

func newDrum(t *testing.T, tracks int) *drum.Drum {
	t.Helper()
	d, e := drum.New(tracks)
	must(t, "drum.New", e)
	return d
}

func opened(t *testing.T, d *drum.Drum) *vault.Vault {
	t.Helper()
	v, e := vault.Open(d)
	if e != api.OK || v == nil {
		t.Fatalf("Open: %d", e)
	}
	return v
}

// made answers a vault with so many tracks, and so many leaves behind the drum's two covers.
func made(t *testing.T, tracks, leaves int) (*drum.Drum, *vault.Vault) {
	t.Helper()
	d := newDrum(t, 2+leaves+tracks)
	must(t, "Found", vault.Found(d, leaves))
	return d, opened(t, d)
}

// filled answers a vault with these records, kept and settled.
func filled(t *testing.T, tracks, leaves int, h held) (*drum.Drum, *vault.Vault) {
	t.Helper()
	d, v := made(t, tracks, leaves)
	for _, id := range slices.Sorted(maps.Keys(h)) {
		must(t, "Put", v.Put(id, []byte(h[id])))
	}
	must(t, "Keep", v.Keep())
	must(t, "Settle", v.Settle())
	return d, v
}

// told answers the records of a vault; it asks that all its calls tell of the same ones.
func told(t *testing.T, v *vault.Vault) held {
	t.Helper()
	h := held{}
	ids := v.IDs()
	for id := -1; id <= api.MaxRecord+1; id++ {
		b, is := v.Get(id)
		if is != slices.Contains(ids, id) || !is && b != nil {
			t.Errorf("Get(%d): %x, %v; IDs: %v", id, b, is, ids)
		}
		if is {
			h[id] = string(b)
		}
	}
	if !slices.IsSorted(ids) || len(ids) != len(h) {
		t.Errorf("IDs: %v", ids)
	}
	for id, b := range h {
		if id < 1 || id > api.MaxRecord || len(b) > api.MaxBytes {
			t.Errorf("record %d of %d bytes", id, len(b))
		}
	}
	if v.Free() != v.Tracks()-h.takes() || v.Free() < 0 {
		t.Errorf("%d of %d tracks free, %d are taken", v.Free(), v.Tracks(), h.takes())
	}
	return h
}

func mustHold(t *testing.T, name string, v *vault.Vault, want held) {
	t.Helper()
	if got := told(t, v); !maps.Equal(got, want) {
		t.Fatalf("%s: %x, must be %x", name, got, want)
	}
}

// tracks answers all of a drum's tracks.
func tracks(t *testing.T, d *drum.Drum) [][]byte {
	t.Helper()
	out := make([][]byte, d.Tracks())
	for k := range out {
		b, e := d.Look(k)
		must(t, "drum.Look", e)
		out[k] = b
	}
	return out
}

// laidOut answers a drum with these tracks, all settled.
func laidOut(t *testing.T, tracks [][]byte) *drum.Drum {
	t.Helper()
	d := newDrum(t, len(tracks))
	for k, b := range tracks {
		must(t, "drum.Lay", d.Lay(k, b))
	}
	must(t, "drum.Settle", d.Settle())
	return d
}

// mustBeAs asks that a drum is untouched since the tracks and the turns were told.
func mustBeAs(t *testing.T, name string, d *drum.Drum, was [][]byte, turns int) {
	t.Helper()
	if d.Turns() != turns || !slices.EqualFunc(tracks(t, d), was, bytes.Equal) {
		t.Errorf("%s: the drum was turned", name)
	}
}

// onLedger answers a ledger, and no vault, with these home tracks.
func onLedger(t *testing.T, leaves int, home [][]byte) *drum.Drum {
	t.Helper()
	d := newDrum(t, 2+leaves+len(home))
	must(t, "ledger.Found", ledger.Found(d, leaves))
	for k, b := range home {
		must(t, "drum.Lay", d.Lay(2+leaves+k, b))
	}
	must(t, "drum.Settle", d.Settle())
	return d
}

// dice is a source of numbers that is always the same.
type dice uint32

func (x *dice) below(n int) int {
	*x = *x*1664525 + 1013904223
	return int(uint64(*x>>3) * uint64(n) >> 29)
}
