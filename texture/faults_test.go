package texture_test

import (
	"encoding/binary"
	"math/rand"
	"slices"
	"strconv"
	"testing"

	"lightwell/api"
	"lightwell/zlib"
)

// small is a picture that may be, and its parts.
func small(s sort) (head, stream, end []byte) {
	rows, _ := rowsTold(s, pixels(s.w, s.h)["drawn"], always(1))
	return chunkTold("IHDR", headTold(s)), packed(rows), chunkTold("IEND", nil)
}

// file tells chunks, behind the eight bytes.
func file(chunks ...[]byte) []byte {
	return append([]byte(begins), slices.Concat(chunks...)...)
}

// spoilt tells a chunk with another sum.
func spoilt(c []byte) []byte {
	c = slices.Clone(c)
	c[len(c)-1] ^= 1
	return c
}

// long tells a chunk that says it has n bytes; none are there.
func long(kind string, n uint32) []byte {
	return append(binary.BigEndian.AppendUint32(nil, n), kind...)
}

// P10.1: bytes that do not begin with the eight are told ahead of all else.
func TestFaultBegins(t *testing.T) {
	whole := fileTold(sort{3, 2, 6, true}, packed(make([]byte, 3*2*4+5)))
	for n := range 8 {
		mustFail(t, "cut at "+strconv.Itoa(n), whole[:n], api.ErrKind)
	}
	mustFail(t, "the eight alone", whole[:8], api.ErrShort)
	mustFail(t, "an empty list", []byte{}, api.ErrKind)
	mustFail(t, "a byte ahead", append([]byte{0}, whole...), api.ErrKind)
	mustFail(t, "without the eight", whole[8:], api.ErrKind)
	for i := range 8 {
		for x := 1; x < 256; x++ {
			other := slices.Clone(whole)
			other[i] += byte(x)
			mustFail(t, "byte "+strconv.Itoa(i), other, api.ErrKind)
			mustFail(t, "byte "+strconv.Itoa(i)+" alone", other[:8], api.ErrKind)
		}
	}
}

// P10.1: a picture that is cut at any byte behind the eight.
func TestFaultCut(t *testing.T) {
	for _, s := range slices.Concat(sorts(1, 1), sorts(9, 7)) {
		head, stream, end := small(s)
		b := file(head, chunkTold("tEXt", []byte("more")), chunkTold("IDAT", stream[:9]), chunkTold("IDAT", stream[9:]), end)
		for n := 8; n < len(b); n++ {
			mustFail(t, s.String()+" cut at "+strconv.Itoa(n), b[:n], api.ErrShort)
			mustFail(t, s.String()+" cut off at "+strconv.Itoa(n), slices.Clip(slices.Clone(b[:n])), api.ErrShort)
		}
	}
}

// P10.1: each byte of a kind, of what a chunk has or of its sum, being another one, makes the sum wrong.
func TestFaultSum(t *testing.T) {
	s := sort{2, 2, 2, false}
	head, stream, end := small(s)
	chunks := [][]byte{head, chunkTold("tEXt", []byte("more")), chunkTold("IDAT", stream), end}
	b := file(chunks...)
	at := 8
	for _, c := range chunks {
		for i := 4; i < len(c); i++ {
			for x := 1; x < 256; x++ {
				other := slices.Clone(b)
				other[at+i] += byte(x)
				mustFail(t, "byte "+strconv.Itoa(at+i), other, api.ErrSum)
			}
		}
		at += len(c)
	}
}

// P10.1: each pair of errors, the first one where it is told, ahead of that behind it.
func TestFaultOrder(t *testing.T) {
	s := sort{2, 2, 6, true}
	head, stream, end := small(s)
	data := chunkTold("IDAT", stream)
	badHead := chunkTold("IHDR", append(make([]byte, 8), headTold(s)[8:]...))
	otherHead := chunkTold("IHDR", append(headTold(s)[:8:8], 16, 6, 0, 0, 1))
	bothHead := chunkTold("IHDR", append(make([]byte, 8), 16, 6, 0, 0, 1))
	for _, x := range []struct {
		name string
		b    []byte
		want api.Errno
	}{
		{"the eight, ahead of a length", append([]byte("\x89PNG\r\n\x1a "), long("IHDR", 1<<31)...), api.ErrKind},
		{"no chunk", file(), api.ErrShort},
		{"three bytes of a length", file([]byte{255, 255, 255}), api.ErrShort},
		{"a length above the limit, and nothing behind it", file(long("", 1<<20+1)), api.ErrLong},
		{"one that is just at it", file(long("", 1<<20)), api.ErrShort},
		{"a length of 2^31", file(long("IHDR", 1<<31)), api.ErrLong},
		{"a length of 2^32 - 1", file(long("IHDR", 1<<32-1)), api.ErrLong},
		{"a length of 2^24", file(long("IHDR", 1<<24)), api.ErrLong},
		{"a chunk that is too long, though all of it is there", file(head, chunkTold("loNg", make([]byte, 1<<20+1)), data, end), api.ErrLong},
		{"too long a stream's", file(head, chunkTold("IDAT", make([]byte, 1<<20+1)), data, end), api.ErrLong},
		{"too long a first one", file(chunkTold("ABCD", make([]byte, 1<<20+1))), api.ErrLong},
		{"too long, ahead of its sum", file(head, spoilt(chunkTold("loNg", make([]byte, 1<<20+1)))), api.ErrLong},
		{"a first chunk that is cut, ahead of its kind", file(data[:len(data)-1]), api.ErrShort},
		{"a sum, ahead of a kind that may not be first", file(spoilt(data)), api.ErrSum},
		{"a sum, ahead of a head's length", file(spoilt(chunkTold("IHDR", nil))), api.ErrSum},
		{"a sum, ahead of sides", file(spoilt(badHead)), api.ErrSum},
		{"a head's sum, ahead of what is behind it", file(spoilt(head), long("IDAT", 1<<31)), api.ErrSum},
		{"data first", file(data, head, data, end), api.ErrBits},
		{"the end first", file(end), api.ErrBits},
		{"an end with bytes first", file(chunkTold("IEND", []byte{1}), head, data, end), api.ErrBits},
		{"a remark first", file(chunkTold("tEXt", nil), head, data, end), api.ErrBits},
		{"another great one first", file(chunkTold("PLTE", nil), head, data, end), api.ErrBits},
		{"a head of 12 bytes", file(chunkTold("IHDR", headTold(s)[:12]), data, end), api.ErrBits},
		{"a head of 14 bytes", file(chunkTold("IHDR", append(headTold(s), 0)), data, end), api.ErrBits},
		{"a head of no bytes", file(chunkTold("IHDR", nil), data, end), api.ErrBits},
		{"a head of 12 bytes, ahead of its sides", file(chunkTold("IHDR", make([]byte, 12))), api.ErrBits},
		{"thirteen bytes in small letters", file(chunkTold("iHDR", headTold(s)), data, end), api.ErrBits},
		{"sides, ahead of the rest of a head", file(bothHead, data, end), api.ErrArg},
		{"sides, ahead of what is behind a head", file(badHead), api.ErrArg},
		{"what a head says, ahead of what is behind it", file(otherHead), api.ErrKind},
		{"what a head says, ahead of a sum", file(otherHead, spoilt(data), end), api.ErrKind},
		{"a second head", file(head, head, data, end), api.ErrBits},
		{"a second head behind the data", file(head, data, head, end), api.ErrBits},
		{"a second head of other bytes", file(head, data, chunkTold("IHDR", nil), end), api.ErrBits},
		{"a second head with sides that may not be", file(head, badHead, data, end), api.ErrBits},
		{"a second head, ahead of what is cut", file(head, head, data[:9]), api.ErrBits},
		{"a second head's sum", file(head, spoilt(head), data, end), api.ErrSum},
		{"an end with a byte", file(head, data, chunkTold("IEND", []byte{0})), api.ErrBits},
		{"an end with a byte, and one more", file(head, data, chunkTold("IEND", []byte{0}), end), api.ErrBits},
		{"an end's sum, ahead of its bytes", file(head, data, spoilt(chunkTold("IEND", []byte{0}))), api.ErrSum},
		{"an end that is cut, ahead of its bytes", file(head, data, chunkTold("IEND", []byte{0})[:12]), api.ErrShort},
		{"no end", file(head, data), api.ErrShort},
		{"no data, no end", file(head), api.ErrShort},
		{"a great one, ahead of no end", file(head, chunkTold("PLTE", nil)), api.ErrKind},
		{"a great one, ahead of a sum", file(head, chunkTold("PLTE", nil), spoilt(data)), api.ErrKind},
		{"a great one's sum", file(head, spoilt(chunkTold("PLTE", nil)), data, end), api.ErrSum},
		{"a remark's sum", file(head, spoilt(chunkTold("tEXt", nil)), data, end), api.ErrSum},
		{"a great one, ahead of a second head", file(head, chunkTold("PLTE", nil), head, data, end), api.ErrKind},
		{"a second head, ahead of a great one", file(head, head, chunkTold("PLTE", nil), data, end), api.ErrBits},
		{"a byte behind the end", file(head, data, end, []byte{0}), api.ErrBits},
		{"a chunk behind the end", file(head, data, end, chunkTold("tEXt", nil)), api.ErrBits},
		{"an end behind the end", file(head, data, end, end), api.ErrBits},
		{"data behind the end", file(head, end, data), api.ErrBits},
		{"a byte behind the end, ahead of the stream", file(head, end, []byte{0}), api.ErrBits},
		{"no stream", file(head, end), api.ErrShort},
		{"a stream of no bytes", file(head, chunkTold("IDAT", nil), end), api.ErrShort},
		{"the whole of it", file(head, data, end), api.OK},
	} {
		if x.want == api.OK {
			mustDecode(t, x.name, x.b, 2, 2, pixels(2, 2)["drawn"])
		} else {
			mustFail(t, x.name, x.b, x.want)
		}
	}
}

// P10.1: each byte that a head's last five may be, alone; with sides that may be, and with others.
func TestFaultHeads(t *testing.T) {
	for _, s := range sorts(1, 1) {
		_, stream, end := small(s)
		data := chunkTold("IDAT", stream)
		for i := 8; i < 13; i++ {
			for x := range 256 {
				says := headTold(s)
				says[i] = byte(x)
				name := s.String() + ", byte " + strconv.Itoa(i) + ": " + strconv.Itoa(x)
				b := file(chunkTold("IHDR", says), data, end)
				switch {
				case says[i] == headTold(s)[i], i == 12 && x < 2: // one pixel comes in one pass, or in none
					mustDecode(t, name, b, 1, 1, opaque(s, pixels(1, 1)["drawn"]))
				case i == 9 && x == 2:
					mustFail(t, name, b, api.ErrLong)
				case i == 9 && x == 6:
					mustFail(t, name, b, api.ErrShort)
				default:
					mustFail(t, name, b, api.ErrKind)
				}
				says[3] = 0
				mustFail(t, name+", no columns", file(chunkTold("IHDR", says), data, end), api.ErrArg)
			}
		}
	}
}

// P10.1: sides that may not be, each alone and both; and those that just may be.
func TestFaultSides(t *testing.T) {
	wrong := []uint32{0, 1025, 2000, 2048, 1 << 16, 1 << 24, 1 << 31, 1<<31 + 1, 1<<32 - 1, 1<<32 - 1024}
	for _, a := range wrong {
		for _, b := range append([]uint32{1, 2, 1024}, wrong...) {
			for _, sides := range [][2]uint32{{a, b}, {b, a}} {
				says := headTold(sort{1, 1, 6, true})
				binary.BigEndian.PutUint32(says, sides[0])
				binary.BigEndian.PutUint32(says[4:], sides[1])
				name := strconv.Itoa(int(sides[0])) + " by " + strconv.Itoa(int(sides[1]))
				mustFail(t, name, file(chunkTold("IHDR", says), chunkTold("IEND", nil)), api.ErrArg)
				mustFail(t, name+" alone", file(chunkTold("IHDR", says)), api.ErrArg)
			}
		}
	}
	for _, s := range slices.Concat(sorts(1, 1024), sorts(1024, 1)) {
		head, stream, end := small(s)
		mustDecode(t, s.String(), file(head, chunkTold("IDAT", stream), end), s.w, s.h, opaque(s, pixels(s.w, s.h)["drawn"]))
	}
}

// P10.1: chunks whose first letter is a great one may be none but those three, wherever they stand.
func TestFaultGreatLetters(t *testing.T) {
	s := sort{2, 1, 2, false}
	head, stream, end := small(s)
	data := chunkTold("IDAT", stream)
	for x := 'A'; x <= 'Z'; x++ {
		for _, behind := range []string{"EXt", "LTE", "dat", "DAt", "dAT", "END", "nd ", "HDr", "DAT", "\x00\x00\x00"} {
			kind := string(x) + behind
			if kind == "IDAT" || kind == "IEND" {
				continue
			}
			for _, says := range [][]byte{nil, {1, 2, 3}} {
				c := chunkTold(kind, says)
				mustFail(t, kind, file(head, c, data, end), api.ErrKind)
				mustFail(t, kind+" behind the data", file(head, data, c, end), api.ErrKind)
			}
		}
	}
}

// P10.1: streams that may not be, or that say fewer or more bytes than the rows have.
func TestFaultStreams(t *testing.T) {
	for _, s := range slices.Concat(sorts(1, 1), sorts(5, 3), sorts(9, 9)) {
		rows, _ := rowsTold(s, pixels(s.w, s.h)["drawn"], always(2))
		good := packed(rows)
		other := slices.Clone(good)
		other[len(other)-1]++
		badHead := slices.Clone(good)
		badHead[0]++
		for name, x := range map[string]struct {
			stream []byte
			want   api.Errno
		}{
			"another sum":           {other, api.ErrSum},
			"another head":          {badHead, api.ErrBits},
			"a byte behind it":      {append(slices.Clip(good), 0), api.ErrBits},
			"without its sum":       {good[:len(good)-4], api.ErrShort},
			"without its last byte": {good[:len(good)-1], api.ErrShort},
			"its first byte":        {good[:1], api.ErrShort},
			"kind 3":                {[]byte{120, 1, 7}, api.ErrBits},
			"one byte fewer":        {packed(rows[:len(rows)-1]), api.ErrShort},
			"one byte":              {packed(rows[:1]), api.ErrShort},
			"no byte":               {packed(nil), api.ErrShort},
			"one byte more":         {packed(append(slices.Clip(rows), 0)), api.ErrLong},
			"twice as many":         {packed(slices.Concat(rows, rows)), api.ErrLong},
			"many more":             {packed(make([]byte, 1<<21)), api.ErrLong},
		} {
			b := fileTold(s, x.stream)
			mustFail(t, s.String()+", "+name, b, x.want)
			mustFail(t, s.String()+", "+name+", and bytes behind the end", append(b, 0), api.ErrBits)
			mustFail(t, s.String()+", "+name+", and no end", b[:len(b)-12], api.ErrShort)
		}
		mustFail(t, s.String()+", its rows, not packed", fileTold(s, rows), zlibError(rows))
	}
}

// zlibError tells which error bytes are that are no stream.
func zlibError(b []byte) api.Errno {
	_, e := zlib.Open(b, len(b))
	return e
}

// P10.1: a filter above 4 in any row; that rows are wanting is told ahead of it.
func TestFaultFilters(t *testing.T) {
	for _, s := range slices.Concat(sorts(1, 1), sorts(5, 3), sorts(9, 9)) {
		rows, places := rowsTold(s, pixels(s.w, s.h)["few"], func(row int) byte { return byte(row % 5) })
		for i, at := range places {
			for _, f := range []byte{5, 6, 8, 128, 255} {
				other := slices.Clone(rows)
				other[at] = f
				name := s.String() + ", row " + strconv.Itoa(i)
				mustFail(t, name, fileTold(s, packed(other)), api.ErrBits)
				mustFail(t, name+", one byte fewer", fileTold(s, packed(other[:len(other)-1])), api.ErrShort)
				mustFail(t, name+", one byte more", fileTold(s, packed(append(other, 0))), api.ErrLong)
			}
		}
	}
	s := sort{1, 1, 6, false}
	for f := 5; f < 256; f++ {
		mustFail(t, "filter "+strconv.Itoa(f), fileTold(s, packed([]byte{byte(f), 1, 2, 3, 4})), api.ErrBits)
	}
}

// chunksDrawn tells chunks of a picture, with faults among them now and then.
func chunksDrawn(r *rand.Rand) []byte {
	s := sort{1 + r.Intn(12), 1 + r.Intn(12), []byte{2, 6}[r.Intn(2)], r.Intn(2) == 0}
	rows, places := rowsTold(s, pixels(s.w, s.h)["few"], func(int) byte { return byte(r.Intn(5)) })
	if r.Intn(8) == 0 {
		rows[places[r.Intn(len(places))]] = byte(r.Intn(7))
	}
	if r.Intn(8) == 0 {
		rows = rows[:r.Intn(len(rows))]
	}
	if r.Intn(8) == 0 {
		rows = append(rows, 0)
	}
	stream := packed(rows)
	if r.Intn(8) == 0 {
		stream[r.Intn(len(stream))] ^= 1 << r.Intn(8)
	}
	says := headTold(s)
	if r.Intn(8) == 0 {
		says[r.Intn(13)] ^= 1 << r.Intn(8)
	}
	cut := r.Intn(len(stream) + 1)
	chunks := [][]byte{chunkTold("IHDR", says), chunkTold("IDAT", stream[:cut]), chunkTold("IDAT", stream[cut:]), chunkTold("IEND", nil)}
	if r.Intn(8) == 0 {
		kinds := []string{"IHDR", "IEND", "PLTE", "tEXt", "IDAT"}
		one := chunkTold(kinds[r.Intn(5)], make([]byte, r.Intn(2)*r.Intn(20)))
		chunks = slices.Insert(chunks, r.Intn(5), one)
	}
	if r.Intn(8) == 0 {
		i := r.Intn(len(chunks))
		chunks[i] = slices.Clone(chunks[i])
		chunks[i][r.Intn(len(chunks[i]))] ^= 1 << r.Intn(8)
	}
	if r.Intn(8) == 0 {
		i, j := r.Intn(len(chunks)), r.Intn(len(chunks))
		chunks[i], chunks[j] = chunks[j], chunks[i]
	}
	b := file(chunks...)
	if r.Intn(8) == 0 {
		b = b[:r.Intn(len(b))]
	}
	return b
}

// P10.1: pictures with faults of all kinds, one or more: whatever comes of it is as told.
func TestFaultsDrawn(t *testing.T) {
	r := rand.New(rand.NewSource(12))
	seen := map[api.Errno]int{}
	for range 20000 {
		b := chunksDrawn(r)
		want, e := decodeTold(b)
		seen[e]++
		if e == api.OK {
			mustDecode(t, "drawn", b, want.W, want.H, want.Pix)
		} else {
			mustFail(t, "drawn", b, e)
		}
	}
	for _, e := range []api.Errno{api.OK, api.ErrKind, api.ErrShort, api.ErrLong, api.ErrSum, api.ErrBits, api.ErrArg} {
		if seen[e] < 100 {
			t.Error("hardly any of", e, seen)
		}
	}
}
