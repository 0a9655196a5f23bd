package seal

import (
	"bytes"
	"math/big"
	"slices"
	"testing"

	"lariat/api"
)

// plainSums works the two sums out as the chapter says them, with numbers that never wrap round.
func plainSums(b []byte) (int, int) {
	whole := append(slices.Clone(b), make([]byte, (4-len(b)%4)%4)...)
	plain, placed := new(big.Int), new(big.Int)
	for place := 1; place <= len(whole)/4; place++ {
		w := new(big.Int).SetBytes(whole[4*place-4 : 4*place])
		plain.Add(plain, w)
		placed.Add(placed, w.Mul(w, big.NewInt(int64(place))))
	}
	bound := new(big.Int).Lsh(big.NewInt(1), 48)
	return int(plain.Mod(plain, bound).Int64()), int(placed.Mod(placed, bound).Int64())
}

// mixed answers n bytes that look like no pattern, always the same ones of a seed.
func mixed(n int, seed uint32) []byte {
	b := make([]byte, n)
	for k := range b {
		seed = seed*1664525 + 1013904223
		b[k] = byte(seed >> 24)
	}
	return b
}

// bodies are what the tests close: nothing, the least, the greatest and mixed bytes of several lengths.
func bodies() [][]byte {
	return [][]byte{
		nil,
		{0, 0, 0, 1},
		{128},
		bytes.Repeat([]byte{255}, Body),
		bytes.Repeat([]byte{0, 255}, Body/2),
		mixed(Body, 1),
		mixed(Body-3, 2),
		mixed(37, 3),
	}
}

func mustClose(t *testing.T, b []byte) []byte {
	t.Helper()
	track, ok := Close(b)
	if !ok {
		t.Fatalf("Close of %d bytes: false", len(b))
	}
	return track
}

// The chapter's example: 00 00 00 01 00 00 00 02 has the sums 3 and 5.
func TestExampleSums(t *testing.T) {
	if plain, placed := Sums([]byte{0, 0, 0, 1, 0, 0, 0, 2}); plain != 3 || placed != 5 {
		t.Errorf("Sums: %d, %d", plain, placed)
	}
}

func TestBodyIsWhatTheSumsLeave(t *testing.T) {
	if Body != 84 || Body+12 != api.Track {
		t.Errorf("Body: %d", Body)
	}
}

func TestSums(t *testing.T) {
	for name, c := range map[string]struct {
		b             []byte
		plain, placed int
	}{
		"nil":                      {nil, 0, 0},
		"no bytes":                 {[]byte{}, 0, 0},
		"one byte":                 {[]byte{1}, 1 << 24, 1 << 24},
		"two bytes":                {[]byte{1, 2}, 0x01020000, 0x01020000},
		"three bytes":              {[]byte{1, 2, 3}, 0x01020300, 0x01020300},
		"one word":                 {[]byte{1, 2, 3, 4}, 0x01020304, 0x01020304},
		"one word of the greatest": {[]byte{255, 255, 255, 255}, 1<<32 - 1, 1<<32 - 1},
		"a word and a byte":        {[]byte{0, 0, 0, 1, 2}, 1 + 2<<24, 1 + 4<<24},
		"a word and two":           {[]byte{0, 0, 0, 1, 0, 2}, 1 + 2<<16, 1 + 4<<16},
		"a word and three":         {[]byte{0, 0, 0, 1, 0, 0, 2}, 1 + 2<<8, 1 + 4<<8},
		"two words":                {[]byte{0, 0, 0, 2, 0, 0, 0, 1}, 3, 4},
		"three words":              {[]byte{0, 0, 0, 1, 0, 0, 0, 1, 0, 0, 0, 1}, 3, 6},
		"0s count as places":       {[]byte{0, 0, 0, 0, 0, 0, 0, 0, 0, 0, 0, 5}, 5, 15},
		"0s behind do not count":   {append([]byte{0, 0, 0, 5}, make([]byte, 99)...), 5, 5},
		"two greatest ones":        {bytes.Repeat([]byte{255}, 8), 2*(1<<32) - 2, 3*(1<<32) - 3},
	} {
		if plain, placed := Sums(c.b); plain != c.plain || placed != c.placed {
			t.Errorf("%s: %d, %d, not %d, %d", name, plain, placed, c.plain, c.placed)
		}
	}
}

func TestSumsOfEveryLength(t *testing.T) {
	for n := range 200 {
		b := mixed(n, uint32(n))
		plain, placed := Sums(b)
		if x, y := plainSums(b); plain != x || placed != y {
			t.Errorf("%d bytes: %d, %d, not %d, %d", n, plain, placed, x, y)
		}
	}
}

func TestSumsAreModuloTwoToThe48(t *testing.T) {
	// 362 is the first number of words whose placed sum goes beyond 2^48, 65537 that of the plain one.
	for _, words := range []int{361, 362, 363, 65536, 65537, 65538, 1 << 17} {
		b := bytes.Repeat([]byte{255}, 4*words)
		plain, placed := Sums(b)
		if x, y := plainSums(b); plain != x || placed != y {
			t.Errorf("%d words: %d, %d, not %d, %d", words, plain, placed, x, y)
		}
	}
	// 2^16 words of 2^31 and 2^16 more of it are just 2^48.
	if plain, _ := Sums(bytes.Repeat([]byte{128, 0, 0, 0}, 1<<17)); plain != 0 {
		t.Errorf("just 2^48: %d", plain)
	}
}

func TestSumsStayRightWhereWordsOf64BitsWrapRound(t *testing.T) {
	// The placed sum of so many words is above 2^64.
	b := bytes.Repeat([]byte{255}, 4*100_000)
	plain, placed := Sums(b)
	if x, y := plainSums(b); plain != x || placed != y {
		t.Errorf("%d, %d, not %d, %d", plain, placed, x, y)
	}
}

func TestCloseLaysTheBytesTheirZerosAndTheSums(t *testing.T) {
	for n := range Body + 1 {
		b := mixed(n, uint32(n)+7)
		track := mustClose(t, b)
		plain, placed := plainSums(b)
		want := append(slices.Clone(b), make([]byte, Body-n)...)
		for _, sum := range []int{plain, placed} {
			for shift := 40; shift >= 0; shift -= 8 {
				want = append(want, byte(sum>>shift))
			}
		}
		if len(track) != api.Track || !bytes.Equal(track, want) {
			t.Errorf("%d bytes: %x, not %x", n, track, want)
		}
	}
}

func TestCloseOfKnownTracks(t *testing.T) {
	zeros := func(n int) []byte { return make([]byte, n) }
	for name, c := range map[string]struct{ b, want []byte }{
		"no bytes":    {nil, zeros(96)},
		"the example": {[]byte{0, 0, 0, 1, 0, 0, 0, 2}, slices.Concat([]byte{0, 0, 0, 1, 0, 0, 0, 2}, zeros(76), []byte{0, 0, 0, 0, 0, 3, 0, 0, 0, 0, 0, 5})},
		"one byte":    {[]byte{7}, slices.Concat([]byte{7}, zeros(83), []byte{0, 0, 7, 0, 0, 0, 0, 0, 7, 0, 0, 0})},
		// 21 times 2^32 - 1, and 231 times it.
		"just Body": {bytes.Repeat([]byte{255}, 84), slices.Concat(bytes.Repeat([]byte{255}, 84), []byte{0, 20, 255, 255, 255, 235, 0, 230, 255, 255, 255, 25})},
	} {
		if track, ok := Close(c.b); !ok || !bytes.Equal(track, c.want) {
			t.Errorf("%s: %t, %x", name, ok, track)
		}
	}
}

func TestCloseOfMoreThanBody(t *testing.T) {
	for _, n := range []int{Body + 1, Body + 2, api.Track, api.Track + 1, 10_000} {
		if track, ok := Close(make([]byte, n)); ok || track != nil {
			t.Errorf("%d bytes: %t, %x", n, ok, track)
		}
	}
}

func TestOpenAnswersWhatWasClosed(t *testing.T) {
	for n := range Body + 1 {
		b := mixed(n, uint32(n)+11)
		body, ok := Open(mustClose(t, b))
		if want := append(slices.Clone(b), make([]byte, Body-n)...); !ok || !bytes.Equal(body, want) {
			t.Errorf("%d bytes: %t, %x", n, ok, body)
		}
	}
}

func TestOpenOfAnotherLength(t *testing.T) {
	track := mustClose(t, mixed(Body, 5))
	for n := range 3 * api.Track {
		b := slices.Concat(track, track, track)[:n]
		if body, ok := Open(b); ok != (n == api.Track) || !ok && body != nil {
			t.Errorf("%d bytes: %t, %x", n, ok, body)
		}
		// 0s are their own sums, so that nothing but the length tells.
		if body, ok := Open(make([]byte, n)); ok != (n == api.Track) || !ok && body != nil {
			t.Errorf("%d zeros: %t, %x", n, ok, body)
		}
	}
	if body, ok := Open(nil); ok || body != nil {
		t.Errorf("nil: %t, %x", ok, body)
	}
}

func TestOpenAsksForBothSums(t *testing.T) {
	track := mustClose(t, mixed(Body, 6))
	for at := Body; at < api.Track; at++ {
		for by := 1; by < 256; by++ {
			turned := bytes.Clone(track)
			turned[at] ^= byte(by)
			if body, ok := Open(turned); ok || body != nil {
				t.Errorf("byte %d of the sums turned by %d: %t, %x", at-Body, by, ok, body)
			}
		}
	}
	swapped := slices.Concat(track[:Body], track[Body+6:], track[Body:Body+6])
	if _, ok := Open(swapped); ok {
		t.Error("the second sum ahead of the first: it opens")
	}
}

func TestOpenOfAnotherBodyWithOneSumTheSame(t *testing.T) {
	track := mustClose(t, []byte{0, 0, 0, 3, 0, 0, 0, 3})
	// The words 4 and 2 have the same plain sum, 1 and 4 the same placed one.
	for name, words := range map[string][2]byte{"plain": {4, 2}, "placed": {1, 4}} {
		turned := bytes.Clone(track)
		turned[3], turned[7] = words[0], words[1]
		if _, ok := Open(turned); ok {
			t.Errorf("the same %s sum is enough", name)
		}
	}
}

// opensTurned tells if the track opens where it is turned, from at on, by the bytes of by.
func opensTurned(track []byte, at int, by ...byte) bool {
	for k, c := range by {
		track[at+k] ^= c
	}
	_, ok := Open(track)
	for k, c := range by {
		track[at+k] ^= c
	}
	return ok
}

func TestNoTurnedByteOpens(t *testing.T) {
	for k, b := range bodies() {
		track := mustClose(t, b)
		for at := range track {
			for by := 1; by < 256; by++ {
				if opensTurned(track, at, byte(by)) {
					t.Fatalf("body %d, at %d, by %d", k, at, by)
				}
			}
		}
	}
}

func TestNoTwoTurnedBytesOpen(t *testing.T) {
	track := mustClose(t, mixed(Body, 8))
	for at := range api.Track - 1 {
		for by := 1; by < 1<<16; by++ {
			if opensTurned(track, at, byte(by>>8), byte(by)) {
				t.Fatalf("at %d, by %04x", at, by)
			}
		}
	}
}

func TestNoThreeOrFourTurnedBytesOpen(t *testing.T) {
	some := []byte{0, 1, 2, 127, 128, 129, 254, 255}
	for k, b := range bodies() {
		track := mustClose(t, b)
		for at := range api.Track - 2 {
			for _, x := range some {
				for _, y := range some {
					for _, z := range some {
						if (x != 0 || y != 0 || z != 0) && opensTurned(track, at, x, y, z) {
							t.Fatalf("body %d, at %d, by %d %d %d", k, at, x, y, z)
						}
						for _, last := range some[1:] {
							if at+4 <= api.Track && opensTurned(track, at, x, y, z, last) {
								t.Fatalf("body %d, at %d, by %d %d %d %d", k, at, x, y, z, last)
							}
						}
					}
				}
			}
		}
	}
}

// What one word loses the next one gains, so that the plain sum alone would not tell.
func TestNoShiftBetweenNeighboursOpens(t *testing.T) {
	track := mustClose(t, bytes.Repeat([]byte{100}, Body))
	for at := 3; at+1 < Body; at += 4 {
		turned := bytes.Clone(track)
		for more := 1; more <= 100; more++ {
			turned[at], turned[at+1] = byte(100+more), byte(100-more)
			if _, ok := Open(turned); ok {
				t.Fatalf("at %d, by %d", at, more)
			}
		}
	}
}

// The last bytes of the body and the first of the first sum, turned as they would fit one another if six bytes were four.
func TestNoTurnOverTheEndOfTheBodyOpens(t *testing.T) {
	track := mustClose(t, mixed(Body, 9))
	for at := Body - 3; at < Body; at++ {
		for by := 1; by < 1<<16; by++ {
			if opensTurned(track, at, byte(by>>8), byte(by), byte(by>>8), byte(by)) {
				t.Fatalf("at %d, by %04x", at, by)
			}
		}
	}
}

// A call is given bytes with spare room, and must leave all of it as it was.
func TestNothingHandedInIsChanged(t *testing.T) {
	for name, call := range map[string]func(b []byte){
		"Sums":  func(b []byte) { Sums(b) },
		"Close": func(b []byte) { Close(b) },
		"Open":  func(b []byte) { Open(b) },
	} {
		for n := range api.Track + 2 {
			room := bytes.Repeat([]byte{0xA5}, api.Track+50)
			if n == api.Track {
				copy(room, mustClose(t, mixed(Body, 10)))
			}
			was := bytes.Clone(room)
			call(room[:n])
			if !bytes.Equal(room, was) {
				t.Errorf("%s of %d bytes: %x", name, n, room)
			}
		}
	}
}

// scribble turns all bytes of b, its spare room too.
func scribble(b []byte) {
	b = b[:cap(b)]
	for k := range b {
		b[k] ^= 0xFF
	}
}

func TestAnswersAreNewMemory(t *testing.T) {
	body := mixed(Body, 12)
	was := bytes.Clone(body)
	first, second := mustClose(t, body), mustClose(t, body)
	scribble(first)
	if third := mustClose(t, body); !bytes.Equal(body, was) || !bytes.Equal(second, third) {
		t.Error("Close: an answer that was scribbled on is seen elsewhere")
	}
	scribble(body)
	if opened, ok := Open(second); !ok || !bytes.Equal(opened, was) {
		t.Error("Close: what was handed in is kept")
	}

	track := bytes.Clone(second)
	one, _ := Open(second)
	other, _ := Open(second)
	scribble(one)
	if again, ok := Open(second); !ok || !bytes.Equal(second, track) || !bytes.Equal(other, was) || !bytes.Equal(again, was) {
		t.Error("Open: an answer that was scribbled on is seen elsewhere")
	}
	scribble(second)
	if !bytes.Equal(other, was) {
		t.Error("Open: what was handed in is kept")
	}
}

func TestNilIsAnEmptyList(t *testing.T) {
	if !bytes.Equal(mustClose(t, nil), mustClose(t, []byte{})) {
		t.Error("Close of nil is not that of an empty list")
	}
}
