package vault

import (
	"bytes"
	"slices"

	"lariat/api"
	"lariat/ledger"
	"lariat/seal"
)

// root is the track that a vault takes for itself: it tells of each number the first track of its record. As no
// record lies there, its number stands for none wherever a track is named.
const root = 0

// mark begins the root; blank tracks, which are closed too, have none.
const mark = "vlt1"

const (
	// short is how many bytes a number takes: of a track, or of how many bytes there are.
	short = 2
	// piece is how many bytes of a record go on one track, behind the next one's number and how many bytes there
	// still are.
	piece = seal.Body - 2*short
)

// places has of each record's number the home tracks that it lies on, in order.
type places [api.MaxRecord + 1][]int

// place answers where records shall lie: on the tracks that those of their numbers had, as far as these go, and then on
// free ones, the lowest first.
func place(r *records, had *places, home int) places {
	var at places
	for id := range r {
		at[id] = had[id][:min(len(had[id]), r[id].takes())]
	}
	free := freeTracks(&at, home)
	for id := range r {
		more := r[id].takes() - len(at[id])
		at[id] = slices.Concat(at[id], free[:more])
		free = free[more:]
	}
	return at
}

// freeTracks answers the list of tracks that are free, rising.
func freeTracks(at *places, home int) []int {
	taken := make([]bool, home)
	taken[root] = true
	for _, tracks := range at {
		for _, k := range tracks {
			taken[k] = true
		}
	}
	var free []int
	for k := range taken {
		if !taken[k] {
			free = append(free, k)
		}
	}
	return free
}

// lay answers what stands on each home track; nil, where it is free.
func lay(r *records, at *places, home int) [][]byte {
	pages := make([][]byte, home)
	pages[root] = layRoot(at)
	for id := range r {
		layRecord(pages, r[id].bytes, at[id])
	}
	return pages
}

func layRoot(at *places) []byte {
	b := []byte(mark)
	for id := 1; id <= api.MaxRecord; id++ {
		b = put(b, first(at[id]))
	}
	return closed(b)
}

// layRecord lays a record's bytes on its tracks. How many there still are stands on each: so one of another record, or
// of the same one as it was once, is seldom taken for it.
func layRecord(pages [][]byte, b []byte, at []int) {
	for n, k := range at {
		here := min(len(b), piece)
		page := put(put(nil, first(at[n+1:])), len(b))
		pages[k] = closed(append(page, b[:here]...))
		b = b[here:]
	}
}

// read answers the records that stand on home tracks, and where; false, if what stands there is not just what lay
// would have laid.
func read(pages [][]byte) (records, places, bool) {
	var r records
	var at places
	taken := make([]bool, len(pages))
	for id := 1; id <= api.MaxRecord; id++ {
		k := number(pages[root][len(mark)+(id-1)*short:])
		if k == root {
			continue
		}
		b, tracks, ok := readRecord(pages, k, taken)
		if !ok {
			return records{}, places{}, false
		}
		r[id], at[id] = record{is: true, bytes: b}, tracks
	}
	for k, b := range lay(&r, &at, len(pages)) {
		if b != nil && !bytes.Equal(b, pages[k]) {
			return records{}, places{}, false
		}
	}
	return r, at, true
}

// readRecord answers the bytes of the record that begins on track k, and its tracks, which are taken then; false, if one
// of them was taken already, so that a ring of tracks ends too. It does not ask if the tracks are closed.
func readRecord(pages [][]byte, k int, taken []bool) ([]byte, []int, bool) {
	var b []byte
	var at []int
	for k != root {
		if k >= len(pages) || taken[k] {
			return nil, nil, false
		}
		taken[k] = true
		at = append(at, k)
		b = append(b, pages[k][2*short:seal.Body]...)
		k = number(pages[k])
	}
	size := number(pages[at[0]][short:])
	if size > api.MaxBytes || Takes(size) != len(at) {
		return nil, nil, false
	}
	return b[:size], at, true
}

// others answers what is written where pages are now others than they were; a free track is left as it is.
func others(was, now [][]byte) []ledger.Entry {
	var e []ledger.Entry
	for k, b := range now {
		if b != nil && !bytes.Equal(b, was[k]) {
			e = append(e, ledger.Entry{At: k, B: b})
		}
	}
	return e
}

// first answers the first of some tracks; root, where there is none.
func first(tracks []int) int {
	if len(tracks) == 0 {
		return root
	}
	return tracks[0]
}

// closed answers a track of at most Body bytes, which seal never refuses.
func closed(b []byte) []byte {
	track, _ := seal.Close(b)
	return track
}

// put lays n behind b, the highest byte first.
func put(b []byte, n int) []byte {
	return append(b, byte(n>>8), byte(n))
}

// number answers the number that b begins with.
func number(b []byte) int {
	return int(b[0])<<8 | int(b[1])
}
