package ledger

import (
	"bytes"
	"math"

	"lariat/api"
	"lariat/seal"
)

const (
	// covers is how many tracks are covers; a round's cover lies on the one with the round's number modulo that.
	covers = 2
	// fewestHome is how many home tracks there are at least.
	fewestHome = 2
)

// How many bytes a number takes, of a round or a posting, and of all else.
const (
	long  = 4
	short = 2
)

// What a leaf holds: head bytes, a piece of a posting, a stamp.
const (
	head  = 2*long + 2*short
	piece = 64
)

// trackTakes is how many bytes of a posting a home track takes.
const trackTakes = short + api.Track

// Leaves tells how many leaves n home tracks take.
func Leaves(n int) int {
	if n < 1 {
		return 0
	}
	// piece tracks take trackTakes leaves to the byte: counted by those, nothing wraps round ahead of the answer.
	whole, rest := n/piece, n%piece
	more := (short + rest*trackTakes + piece - 1) / piece
	if whole > (math.MaxInt-more)/trackTakes {
		return math.MaxInt
	}
	return whole*trackTakes + more
}

// fits tells if a drum of so many tracks may have so many leaves.
func fits(leaves, tracks int) bool {
	return leaves >= api.MinLedger && leaves <= tracks-covers-fewestHome
}

func layCover(round, leaves int) []byte {
	b := put(nil, round, long)
	b = put(b, leaves, short)
	b = append(b, make([]byte, seal.Body-long-len(b))...)
	return closed(put(b, round, long))
}

// readCover answers what the cover b on track at says; false, if it is not right there, on a drum of so many tracks.
func readCover(b []byte, at, tracks int) (round, leaves int, ok bool) {
	round, leaves = number(b[:long]), number(b[long:long+short])
	ok = round > 0 && round%covers == at && fits(leaves, tracks) && bytes.Equal(b, layCover(round, leaves))
	return round, leaves, ok
}

// layPosting answers the leaves that a round's n-th posting takes. Number and round stand at the end of each once
// more: of one that is torn, these are still those of what lay there ahead of it.
func layPosting(e []Entry, round, n int) [][]byte {
	pages := make([][]byte, Leaves(len(e)))
	text := put(nil, len(e), short)
	for _, x := range e {
		text = append(put(text, x.At, short), x.B...)
	}
	text = append(text, make([]byte, len(pages)*piece-len(text))...)
	for k := range pages {
		b := put(put(nil, round, long), n, long)
		b = put(put(b, k, short), len(pages), short)
		b = append(b, text[k*piece:(k+1)*piece]...)
		pages[k] = closed(put(put(b, n, long), round, long))
	}
	return pages
}

// readPosting answers the entries of a round's n-th posting; false, if it does not stand whole at the beginning of
// these leaves, or is not for so many home tracks.
func readPosting(pages [][]byte, round, n, home int) ([]Entry, bool) {
	if len(pages) == 0 {
		return nil, false
	}
	e := make([]Entry, number(pages[0][head:head+short]))
	if Leaves(len(e)) > len(pages) {
		return nil, false
	}
	pages = pages[:Leaves(len(e))]
	var text []byte
	for _, b := range pages {
		text = append(text, b[head:head+piece]...)
	}
	for k := range e {
		b := text[short+k*trackTakes:]
		e[k] = Entry{At: number(b[:short]), B: b[short:trackTakes]}
	}
	if !goes(e, home) {
		return nil, false
	}
	for k, b := range layPosting(e, round, n) {
		if !bytes.Equal(b, pages[k]) {
			return nil, false
		}
	}
	return e, true
}

// closed answers a track of Body bytes, which seal never refuses.
func closed(b []byte) []byte {
	track, _ := seal.Close(b)
	return track
}

// put lays n behind b, in so many bytes, the highest first.
func put(b []byte, n, size int) []byte {
	for k := size - 1; k >= 0; k-- {
		b = append(b, byte(n>>(8*k)))
	}
	return b
}

// number answers the number that b's bytes are, the highest first.
func number(b []byte) int {
	n := 0
	for _, c := range b {
		n = n<<8 | int(c)
	}
	return n
}
