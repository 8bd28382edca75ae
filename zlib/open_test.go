package zlib_test

import (
	"bytes"
	stdzlib "compress/zlib"
	"math"
	"math/rand"
	"slices"
	"strconv"
	"testing"

	"lightwell/api"
	"lightwell/inflate"
	"lightwell/zlib"
)

// mustOpen opens, and it must say that.
func mustOpen(t *testing.T, name string, b []byte, most int, want []byte) {
	t.Helper()
	got, e := zlib.Open(b, most)
	if e != api.OK {
		t.Errorf("%s: error %d", name, e)
		return
	}
	mustBe(t, name, got, want)
}

// mustFail opens, and it must be that error.
func mustFail(t *testing.T, name string, b []byte, most int, want api.Errno) {
	t.Helper()
	if got, e := zlib.Open(b, most); len(got) != 0 || e != want {
		t.Errorf("%s: %d bytes, %d; want error %d", name, len(got), e, want)
	}
}

// headTold tells whether two bytes may be a stream's first, as the chapter's words have it.
func headTold(first, second int) bool {
	return rulesBroken(first, second) == 0
}

// rulesBroken tells how many of the rules of heads two bytes break.
func rulesBroken(first, second int) int {
	broken := 0
	for _, ok := range []bool{first%16 == 8, first/16 <= 7, (256*first+second)%31 == 0, second/32%2 == 0} {
		if !ok {
			broken++
		}
	}
	return broken
}

// openTold tells what Open of b and most must answer, as the chapter's words have it, step by step.
func openTold(b []byte, most int) ([]byte, api.Errno) {
	if len(b) < 2 {
		return nil, api.ErrShort
	}
	if !headTold(int(b[0]), int(b[1])) {
		return nil, api.ErrBits
	}
	out, used, e := inflate.Inflate(b[2:], most)
	if e != api.OK {
		return nil, e
	}
	rest := b[2+used:]
	if len(rest) < 4 {
		return nil, api.ErrShort
	}
	if !bytes.Equal(rest[:4], sumTold(out)) {
		return nil, api.ErrSum
	}
	if len(rest) > 4 {
		return nil, api.ErrBits
	}
	return out, api.OK
}

// P8.2: the chapter's examples.
func TestOpenExamples(t *testing.T) {
	mustOpen(t, "no bytes", []byte{120, 1, 3, 0, 0, 0, 0, 1}, 9, nil)
	mustOpen(t, "a", []byte{120, 1, 75, 4, 0, 0, 98, 0, 98}, 9, []byte("a"))
	mustFail(t, "another sum", []byte{120, 1, 3, 0, 0, 0, 0, 2}, 9, api.ErrSum)
	mustFail(t, "one byte", []byte{120}, 9, api.ErrShort)
	mustFail(t, "another head", []byte{121, 1, 3, 0, 0, 0, 0, 1}, 9, api.ErrBits)
	mustFail(t, "another head alone", []byte{121, 1}, 9, api.ErrBits)
}

// P8.2: less than two bytes, whatever they are, are told ahead of all else.
func TestNoHead(t *testing.T) {
	mustFail(t, "none", nil, 9, api.ErrShort)
	mustFail(t, "none, empty", []byte{}, 9, api.ErrShort)
	for x := range 256 {
		mustFail(t, "the byte "+strconv.Itoa(x), []byte{byte(x)}, -1, api.ErrShort)
	}
}

// P8.2: each pair of first two bytes: with a stream behind it, with nothing, with what is no block, with more than may be.
func TestEachHead(t *testing.T) {
	count := 0
	for first := range 256 {
		for second := range 256 {
			name := strconv.Itoa(first) + " " + strconv.Itoa(second)
			a := []byte{byte(first), byte(second), 75, 4, 0, 0, 98, 0, 98}
			if !headTold(first, second) {
				for _, n := range []int{2, 3, 8, 9} {
					mustFail(t, name, a[:n], 9, api.ErrBits)
				}
				mustFail(t, name+", most 0", a, 0, api.ErrBits)
				continue
			}
			count++
			mustOpen(t, name, a, 9, []byte("a"))
			mustFail(t, name+" alone", a[:2], 9, api.ErrShort)
			mustFail(t, name+", most 0", a, 0, api.ErrLong)
			mustFail(t, name+", no block", []byte{byte(first), byte(second), 7}, 9, api.ErrBits)
		}
	}
	if count != 32 { // that many RFC 1950 leaves
		t.Error("so many heads may be:", count)
	}
}

// P8.2: heads that one rule alone refuses.
func TestHeadRules(t *testing.T) {
	behind := []byte{75, 4, 0, 0, 98, 0, 98}
	for name, head := range map[string][2]byte{
		"a rest by 16 of 7":   {0x77, 0x09},
		"a rest by 16 of 9":   {0x79, 0x18},
		"a rest by 16 of 0":   {0x70, 0x03},
		"a quotient of 8":     {0x88, 0x1c},
		"a quotient of 15":    {0xf8, 0x1f},
		"does not go by 31":   {0x78, 0x02},
		"does not go, by one": {0x78, 0x00},
		"the bit of 32":       {0x78, 0x20},
		"the bit of 32, more": {0x78, 0xbb},
	} {
		if n := rulesBroken(int(head[0]), int(head[1])); n != 1 {
			t.Errorf("%s: %d rules", name, n)
		}
		mustFail(t, name, append(head[:], behind...), 9, api.ErrBits)
	}
	for name, head := range map[string][2]byte{
		"the least quotient": {0x08, 0x1d},
		"the next":           {0x18, 0x19},
		"swift":              {0x78, 0x5e},
		"as always":          {0x78, 0x9c},
		"slow":               {0x78, 0xda},
	} {
		mustOpen(t, name, append(head[:], behind...), 9, []byte("a"))
	}
}

// P8.2: errors, each at the first place where it is told, ahead of those behind it.
func TestOrder(t *testing.T) {
	for _, x := range []struct {
		name string
		b    []byte
		most int
		want api.Errno
	}{
		{"a head, ahead of too few bytes", []byte{120, 2}, 9, api.ErrBits},
		{"a head, ahead of too many", []byte{120, 2, 75, 4, 0, 0, 98, 0, 98}, 0, api.ErrBits},
		{"a head, ahead of a sum", []byte{120, 2, 75, 4, 0, 0, 98, 0, 99}, 9, api.ErrBits},
		{"nothing of blocks", []byte{120, 1}, 9, api.ErrShort},
		{"less than a block", []byte{120, 1, 75}, 9, api.ErrShort},
		{"less than a block, though too much", []byte{120, 1, 75}, 0, api.ErrShort},
		{"kind 3, and nothing behind it", []byte{120, 1, 7}, 9, api.ErrBits},
		{"kind 3, ahead of a sum", []byte{120, 1, 7, 0, 0, 0, 2}, 9, api.ErrBits},
		{"a length that is not turned", []byte{120, 1, 1, 1, 0, 255, 255, 7, 0, 8, 0, 8}, 9, api.ErrBits},
		{"too many, ahead of no sum", []byte{120, 1, 75, 4, 0}, 0, api.ErrLong},
		{"too many, ahead of half a sum", []byte{120, 1, 75, 4, 0, 0, 98}, 0, api.ErrLong},
		{"too many, ahead of another sum", []byte{120, 1, 75, 4, 0, 1, 2, 3, 4}, 0, api.ErrLong},
		{"too many, ahead of more bytes", []byte{120, 1, 75, 4, 0, 0, 98, 0, 98, 0}, 0, api.ErrLong},
		{"no sum", []byte{120, 1, 75, 4, 0}, 9, api.ErrShort},
		{"one byte of a sum", []byte{120, 1, 75, 4, 0, 0}, 9, api.ErrShort},
		{"three of a sum", []byte{120, 1, 75, 4, 0, 0, 98, 0}, 9, api.ErrShort},
		{"three of another one", []byte{120, 1, 75, 4, 0, 9, 9, 9}, 9, api.ErrShort},
		{"another sum", []byte{120, 1, 75, 4, 0, 0, 98, 0, 99}, 9, api.ErrSum},
		{"the lowest byte first", []byte{120, 1, 75, 4, 0, 98, 0, 98, 0}, 9, api.ErrSum},
		{"the sum of no bytes", []byte{120, 1, 75, 4, 0, 0, 0, 0, 1}, 9, api.ErrSum},
		{"another sum, ahead of more bytes", []byte{120, 1, 75, 4, 0, 0, 98, 0, 99, 0}, 9, api.ErrSum},
		{"the sum, one byte too late", []byte{120, 1, 75, 4, 0, 0, 0, 98, 0, 98}, 9, api.ErrSum},
		{"a byte more", []byte{120, 1, 75, 4, 0, 0, 98, 0, 98, 0}, 9, api.ErrBits},
		{"a stream more", []byte{120, 1, 75, 4, 0, 0, 98, 0, 98, 120, 1, 75, 4, 0, 0, 98, 0, 98}, 9, api.ErrBits},
	} {
		mustFail(t, x.name, x.b, x.most, x.want)
	}
}

// P8.2, P8.3: what is written is opened, with just enough, with more; with one less it is too much, whatever is below 0 counts as 0.
func TestOpenWritten(t *testing.T) {
	for name, in := range inputs() {
		b := whole(t, in)
		for _, most := range []int{len(in), len(in) + 1, 1 << 20, math.MaxInt} {
			mustOpen(t, name, b, most, in)
		}
		for _, most := range []int{len(in) - 1, len(in) / 2, 0, -1, -len(in), math.MinInt} {
			if len(in) == 0 {
				mustOpen(t, name+", most "+strconv.Itoa(most), b, most, nil)
			} else if most < len(in) {
				mustFail(t, name+", most "+strconv.Itoa(most), b, most, api.ErrLong)
			}
		}
	}
}

// P8.2: streams that are cut at any byte.
func TestOpenCut(t *testing.T) {
	r := rand.New(rand.NewSource(86))
	for name, in := range map[string][]byte{
		"none":       nil,
		"a":          []byte("a"),
		"runs":       bytes.Repeat([]byte("runs "), 1000),
		"drawn":      drawn(r, 300, 256),
		"two blocks": drawn(r, 4200, 3),
	} {
		b := whole(t, in)
		for n := range b {
			mustFail(t, name+", cut at "+strconv.Itoa(n), b[:n], 1<<20, api.ErrShort)
			mustFail(t, name+", cut off at "+strconv.Itoa(n), slices.Clip(slices.Clone(b[:n])), len(in), api.ErrShort)
		}
	}
}

// P8.2: bytes behind a stream, one or more, whatever they are.
func TestOpenMore(t *testing.T) {
	for _, in := range [][]byte{nil, []byte("a"), bytes.Repeat([]byte("more"), 2000)} {
		b := whole(t, in)
		for x := range 256 {
			mustFail(t, "the byte "+strconv.Itoa(x), append(slices.Clip(b), byte(x)), len(in), api.ErrBits)
		}
		mustFail(t, "many", append(slices.Clip(b), b...), 1<<20, api.ErrBits)
	}
}

// P8.2, P8.3: any byte of the sum, and any other one in its place.
func TestOpenSum(t *testing.T) {
	for name, in := range map[string][]byte{"none": nil, "a": []byte("a"), "text": inputs()["text"], "drawn": inputs()["drawn 100"]} {
		b := whole(t, in)
		for i := len(b) - 4; i < len(b); i++ {
			for x := range 255 {
				other := slices.Clone(b)
				other[i] += byte(x + 1)
				mustFail(t, name+", byte "+strconv.Itoa(i), other, len(in), api.ErrSum)
				mustFail(t, name+", and more", append(other, 7), len(in), api.ErrSum)
			}
		}
	}
}

// P8.2: a byte of blocks that is another one says something else: then the sum is another one.
func TestOpenOtherBytes(t *testing.T) {
	in := drawn(rand.New(rand.NewSource(87)), 300, 256)
	b := whole(t, in) // one stored block: its bytes are those from the place 7 on
	for i := range in {
		other := slices.Clone(b)
		other[7+i] ^= 1 << (i % 8)
		mustFail(t, "byte "+strconv.Itoa(i), other, 300, api.ErrSum)
	}
}

// P8.2: streams with bits that are turned, cut, with bytes behind them: whatever comes of it, it is as told.
func TestSpoilt(t *testing.T) {
	r := rand.New(rand.NewSource(88))
	seen := map[api.Errno]int{}
	for range 20000 {
		in := drawn(r, r.Intn(60), 1+r.Intn(256))
		b := whole(t, in)
		for range r.Intn(3) {
			i := r.Intn(8 * len(b))
			b[i/8] ^= 1 << (i % 8)
		}
		switch r.Intn(6) {
		case 0:
			b = b[:r.Intn(len(b))]
		case 1:
			b = append(b, drawn(r, 1+r.Intn(5), 256)...)
		}
		most := []int{len(in), len(in) - 1, 1 << 20, r.Intn(60)}[r.Intn(4)]
		want, e := openTold(b, most)
		seen[e]++
		if e == api.OK {
			mustOpen(t, "spoilt", b, most, want)
		} else {
			mustFail(t, "spoilt", b, most, e)
		}
	}
	for _, e := range []api.Errno{api.OK, api.ErrShort, api.ErrLong, api.ErrBits, api.ErrSum} {
		if seen[e] < 100 {
			t.Error("hardly any of", e, seen)
		}
	}
}

// P8.2: streams of another writer, with each of its heads and with codes of their own.
func TestAnotherWriter(t *testing.T) {
	for name, in := range inputs() {
		for level := -2; level <= 9; level++ {
			var out bytes.Buffer
			w, _ := stdzlib.NewWriterLevel(&out, level)
			w.Write(in)
			w.Close()
			mustOpen(t, name+", level "+strconv.Itoa(level), out.Bytes(), len(in), in)
		}
	}
}

// P8.2: a stream that asks for bytes that are agreed on ahead is none.
func TestLexicon(t *testing.T) {
	var out bytes.Buffer
	w, _ := stdzlib.NewWriterLevelDict(&out, 6, []byte("agreed on ahead"))
	w.Write([]byte("agreed on"))
	w.Close()
	mustFail(t, "agreed on", out.Bytes(), 99, api.ErrBits)
}

// R3, R4: what is opened stays as it is, its spare room is not read, and what is told is new each time.
func TestOpenMemory(t *testing.T) {
	in := []byte("what is handed out is new")
	room := append(whole(t, in), 1, 2, 3)
	b := room[:len(room)-3]
	kept := slices.Clone(room)
	first, _ := zlib.Open(b, 99)
	second, _ := zlib.Open(b, 99)
	mustBe(t, "what was handed in", room, kept)
	clear(first[:cap(first)])
	mustBe(t, "what was handed in, behind it", room, kept)
	clear(room)
	mustBe(t, "the second", second, in)
	short := slices.Clone(kept)[:len(b)-1]
	mustFail(t, "the sum's last byte in spare room", short, 99, api.ErrShort)
}
