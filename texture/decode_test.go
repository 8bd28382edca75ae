package texture_test

import (
	"bytes"
	"image"
	stdpng "image/png"
	"math/rand"
	"slices"
	"strconv"
	"testing"

	"lightwell/api"
	"lightwell/png"
	"lightwell/texture"
)

// byPng tells a picture by png.
func byPng(t *testing.T, w, h int, pix []byte) []byte {
	t.Helper()
	e, fault := png.New(w, h)
	if fault != api.OK {
		t.Fatal(fault)
	}
	var b []byte
	for _, n := range png.Order(w, h) {
		told, fault := e.Put([4]byte(pix[4*n:]))
		if fault != api.OK {
			t.Fatal(fault)
		}
		b = append(b, told...)
	}
	return b
}

// always is a filter for all rows.
func always(f byte) func(int) byte {
	return func(int) byte { return f }
}

// filters are ways to choose rows' filters, by name.
func filters() map[string]func(row int) byte {
	r := rand.New(rand.NewSource(10))
	m := map[string]func(int) byte{"drawn": func(int) byte { return byte(r.Intn(5)) }}
	for f := range 5 {
		m["all "+strconv.Itoa(f)] = always(byte(f))
		m["in turn from "+strconv.Itoa(f)] = func(row int) byte { return byte((row + f) % 5) }
	}
	return m
}

// P10.1: the chapter's examples.
func TestDecodeExamples(t *testing.T) {
	pixel := []byte{1, 2, 3, 255}
	mustDecode(t, "one pixel", byPng(t, 1, 1, pixel), 1, 1, pixel)
	mustFail(t, "no bytes", nil, api.ErrKind)
}

// P10.3: what png tells is decoded to the same pixels, of sizes and pictures of every kind.
func TestDecodePng(t *testing.T) {
	for _, s := range append(smallSorts(), greatSorts()...) {
		if s.kind == 6 && s.laced {
			for name, pix := range pixels(s.w, s.h) {
				mustDecode(t, name+" of "+s.String(), byPng(t, s.w, s.h, pix), s.w, s.h, pix)
			}
		}
	}
}

// P10.1, P10.3: so is the greatest picture there may be; interlaced or not, of both kinds.
func TestDecodeGreatest(t *testing.T) {
	all := pixels(1024, 1024)
	mustDecode(t, "by png", byPng(t, 1024, 1024, all["steps"]), 1024, 1024, all["steps"])
	for _, s := range sorts(1024, 1024) {
		b, _ := rowsTold(s, all["few"], func(row int) byte { return byte(row % 5) })
		mustDecode(t, s.String(), fileTold(s, packed(b)), 1024, 1024, opaque(s, all["few"]))
	}
}

// P10.1: pictures of both kinds, interlaced or not, with each filter in first and later rows, and in each pass.
func TestDecodeFilters(t *testing.T) {
	for _, s := range smallSorts() {
		all := pixels(s.w, s.h)
		for how, filter := range filters() {
			for _, name := range []string{"drawn", "few", "steps"} {
				b, _ := rowsTold(s, all[name], filter)
				mustDecode(t, name+" of "+s.String()+", filters "+how, fileTold(s, packed(b)), s.w, s.h, opaque(s, all[name]))
			}
		}
	}
}

// P10.1: the same of the greatest sides.
func TestDecodeGreatSides(t *testing.T) {
	for _, s := range greatSorts() {
		all := pixels(s.w, s.h)
		for name, pix := range all {
			b, _ := rowsTold(s, pix, func(row int) byte { return byte(row % 5) })
			mustDecode(t, name+" of "+s.String(), fileTold(s, packed(b)), s.w, s.h, opaque(s, pix))
		}
	}
}

// P10.1: what the tests write is what the library reads: so the tests' own rows are those of PNG.
func TestAnotherReader(t *testing.T) {
	for _, s := range slices.Concat(sorts(1, 1), sorts(3, 2), sorts(5, 9), sorts(13, 17), sorts(64, 33)) {
		for how, filter := range filters() {
			pix := pixels(s.w, s.h)["drawn"]
			b, _ := rowsTold(s, pix, filter)
			m, err := stdpng.Decode(bytes.NewReader(fileTold(s, packed(b))))
			if err != nil {
				t.Errorf("%v, filters %s: %v", s, how, err)
				continue
			}
			switch other := m.(type) {
			case *image.NRGBA:
				mustBe(t, s.String()+", filters "+how, other.Pix, pix)
			case *image.RGBA:
				mustBe(t, s.String()+", filters "+how, other.Pix, opaque(s, pix))
			default:
				t.Errorf("%v, filters %s: read as another kind", s, how)
			}
		}
	}
}

// P10.1: what the library writes, with alpha and without.
func TestAnotherWriter(t *testing.T) {
	for _, s := range slices.Concat(sorts(1, 1), sorts(17, 9), sorts(100, 70), sorts(300, 200)) {
		if s.laced {
			continue // the library writes none
		}
		for name, pix := range pixels(s.w, s.h) {
			m := image.NewNRGBA(image.Rect(0, 0, s.w, s.h))
			copy(m.Pix, opaque(s, pix))
			if s.kind == 6 {
				m.Pix[3] = 7 // else it may write it without alpha
			}
			for _, level := range []stdpng.CompressionLevel{stdpng.DefaultCompression, stdpng.NoCompression, stdpng.BestSpeed, stdpng.BestCompression} {
				var b bytes.Buffer
				if err := (&stdpng.Encoder{CompressionLevel: level}).Encode(&b, m); err != nil {
					t.Fatal(err)
				}
				if got := b.Bytes()[25]; got != s.kind {
					t.Errorf("%s of %v: written as kind %d", name, s, got)
				}
				mustDecode(t, name+" of "+s.String(), b.Bytes(), s.w, s.h, m.Pix)
			}
		}
	}
}

// byHand is rows, told by hand, and the pixels that they say.
type byHand struct {
	name string
	s    sort
	rows []byte
	pix  []byte
}

// rowsByHand are pictures with each filter, that go above 255, and where a filter has to choose.
func rowsByHand() []byHand {
	return []byHand{
		{"nothing added", sort{2, 1, 2, false}, []byte{0, 1, 2, 3, 4, 5, 6}, []byte{1, 2, 3, 255, 4, 5, 6, 255}},
		{"the one ahead", sort{2, 1, 2, false}, []byte{1, 1, 2, 3, 4, 5, 255}, []byte{1, 2, 3, 255, 5, 7, 2, 255}},
		{"the one ahead, of four bytes", sort{2, 1, 6, false}, []byte{1, 1, 2, 3, 4, 5, 255, 0, 200}, []byte{1, 2, 3, 4, 6, 1, 3, 204}},
		{"above, in the first row", sort{1, 1, 6, false}, []byte{2, 9, 8, 7, 6}, []byte{9, 8, 7, 6}},
		{"above", sort{1, 2, 2, false}, []byte{0, 200, 2, 3, 2, 100, 5, 6}, []byte{200, 2, 3, 255, 44, 7, 9, 255}},
		{"half, in the first row", sort{2, 1, 2, false}, []byte{3, 255, 2, 1, 1, 1, 1}, []byte{255, 2, 1, 255, 128, 2, 1, 255}},
		{"half of both, above 255", sort{2, 2, 2, false},
			[]byte{0, 255, 255, 10, 254, 1, 255, 3, 128, 0, 0, 2, 200, 250},
			[]byte{255, 255, 10, 255, 254, 1, 255, 255, 255, 127, 5, 255, 0, 8, 124, 255}},
		{"nearest, in the first row", sort{2, 1, 2, false}, []byte{4, 7, 8, 9, 1, 2, 3}, []byte{7, 8, 9, 255, 8, 10, 12, 255}},
		{"nearest, in the first column", sort{1, 2, 2, false}, []byte{0, 7, 8, 9, 4, 1, 2, 255}, []byte{7, 8, 9, 255, 8, 10, 8, 255}},
		// a 10, b 20; c 15, 20, 10: the goals are 15, 10, 20
		{"nearest: c, a, b", sort{2, 2, 2, false},
			[]byte{0, 15, 20, 10, 20, 20, 20, 4, 251, 246, 0, 0, 0, 0},
			[]byte{15, 20, 10, 255, 20, 20, 20, 255, 10, 10, 10, 255, 15, 10, 20, 255}},
		// a 10, 30, 20; b 20, 20, 30; c 30, 10, 10: the goals are 0, 40, 40
		{"nearest: to a goal beyond all three: a, a, b", sort{2, 2, 2, false},
			[]byte{0, 30, 10, 10, 20, 20, 30, 4, 236, 20, 10, 0, 0, 0},
			[]byte{30, 10, 10, 255, 20, 20, 30, 255, 10, 30, 20, 255, 10, 30, 30, 255}},
		// a 12, 9, 10; b 9, 12, 16; c 10, 10, 13: the goals are 11, with a and c as near, 11, with b and c as near, 13
		{"nearest: of two that are as near: a, b, and c between both", sort{2, 2, 2, false},
			[]byte{0, 10, 10, 13, 9, 12, 16, 4, 2, 255, 253, 1, 1, 1},
			[]byte{10, 10, 13, 255, 9, 12, 16, 255, 12, 9, 10, 255, 13, 13, 14, 255}},
		// a 250, 10, 250; b 255, 0, 255; c 3, 200, 3: the goals are 502, -190, 502
		{"nearest: to goals that are no bytes: b", sort{2, 2, 2, false},
			[]byte{0, 3, 200, 3, 255, 0, 255, 4, 247, 66, 247, 9, 9, 9},
			[]byte{3, 200, 3, 255, 255, 0, 255, 255, 250, 10, 250, 255, 8, 9, 8, 255}},
	}
}

// P10.1: rows that are told by hand.
func TestByHand(t *testing.T) {
	for _, x := range rowsByHand() {
		mustDecode(t, x.name, fileTold(x.s, packed(x.rows)), x.s.w, x.s.h, x.pix)
	}
}

// P10.1: of an interlaced picture each pass begins anew: its first row has none ahead of it.
func TestPassesBeginAnew(t *testing.T) {
	s := sort{8, 8, 2, true}
	var rows, want []byte
	for _, grid := range gridTold(s) {
		for range grid {
			rows = append(rows, 2)
			rows = append(rows, bytes.Repeat([]byte{1, 2, 3}, len(grid[0]))...)
		}
	}
	for n := range 64 {
		deep := map[byte]int{'1': n / 8 / 8, '2': n / 8 / 8, '3': n / 8 / 8, '4': n / 8 / 4, '5': n / 8 / 4, '6': n / 8 / 2, '7': n / 8 / 2}
		d := byte(deep[passTold(n%8, n/8)] + 1)
		want = append(want, d, 2*d, 3*d, 255)
	}
	mustDecode(t, s.String(), fileTold(s, packed(rows)), 8, 8, want)
}

// P10.1: a stream in many pieces, some of no bytes; none of the pieces but how they follow counts.
func TestPieces(t *testing.T) {
	r := rand.New(rand.NewSource(11))
	for _, s := range sorts(13, 11) {
		pix := pixels(s.w, s.h)["few"]
		rows, _ := rowsTold(s, pix, func(row int) byte { return byte(row % 5) })
		stream := packed(rows)
		for most := range 40 {
			b := slices.Concat([]byte(begins), chunkTold("IHDR", headTold(s)), chunkTold("IDAT", nil))
			for rest := stream; len(rest) > 0; {
				n := min(len(rest), max(1, r.Intn(most+1)))
				b = append(b, chunkTold("IDAT", rest[:n])...)
				rest = rest[n:]
				if r.Intn(3) == 0 {
					b = append(b, chunkTold("IDAT", nil)...)
				}
				if r.Intn(3) == 0 {
					b = append(b, chunkTold("tEXt", []byte("a remark in between"))...)
				}
			}
			b = slices.Concat(b, chunkTold("IDAT", nil), chunkTold("tIME", nil), chunkTold("IEND", nil))
			mustDecode(t, s.String()+" in pieces up to "+strconv.Itoa(most), b, s.w, s.h, opaque(s, pix))
		}
	}
}

// P10.1: chunks whose first letter is no great one say nothing, wherever they stand behind the head, whatever they have.
func TestChunksThatSayNothing(t *testing.T) {
	s := sort{3, 2, 6, true}
	pix := pixels(3, 2)["drawn"]
	rows, _ := rowsTold(s, pix, always(4))
	for x := range 256 {
		if 'A' <= x && x <= 'Z' {
			continue
		}
		for _, behind := range []string{"EXt", "DAT", "END", "HDR", "LTE", "\x00\xff ", "dat"} {
			kind := string([]byte{byte(x)}) + behind
			for _, says := range [][]byte{nil, {0}, headTold(s), make([]byte, 300)} {
				c := chunkTold(kind, says)
				mustDecode(t, "a chunk "+strconv.Quote(kind), fileTold(s, packed(rows), c, c), 3, 2, pix)
				b := fileTold(s, packed(rows))
				mustDecode(t, "behind the stream: "+strconv.Quote(kind), slices.Insert(b, len(b)-12, c...), 3, 2, pix)
			}
		}
	}
}

// P10.1: chunks of as many bytes as may be.
func TestLongestChunks(t *testing.T) {
	s := sort{1, 1, 2, false}
	stream := packed([]byte{0, 5, 6, 7})
	for _, n := range []int{1<<20 - 1, 1 << 20} {
		long := chunkTold("loNg", bytes.Repeat([]byte{9}, n))
		mustDecode(t, strconv.Itoa(n), fileTold(s, stream, long), 1, 1, []byte{5, 6, 7, 255})
	}
	s = sort{1024, 300, 6, false}
	pix := pixels(s.w, s.h)["drawn"]
	rows, _ := rowsTold(s, pix, always(0))
	stream = packed(rows)
	if len(stream) <= 1<<20 {
		t.Fatal(len(stream))
	}
	first := chunkTold("IDAT", stream[:1<<20])
	mustDecode(t, "two long ones", fileTold(s, stream[1<<20:], first), s.w, s.h, pix)
}

// R3, R4: what is decoded stays as it is, its spare room is not read, and what is told is new each time.
func TestDecodeMemory(t *testing.T) {
	for _, s := range sorts(9, 5) {
		pix := pixels(s.w, s.h)["drawn"]
		rows, _ := rowsTold(s, pix, always(3))
		room := append(fileTold(s, packed(rows)), 1, 2, 3)
		b := room[:len(room)-3]
		kept := slices.Clone(room)
		first, _ := texture.Decode(b)
		second, _ := texture.Decode(b)
		mustBe(t, "what was handed in", room, kept)
		clear(first.Pix[:cap(first.Pix)])
		mustBe(t, "what was handed in, behind it", room, kept)
		clear(room)
		mustBe(t, "the second", second.Pix, opaque(s, pix))
		mustFail(t, "the last byte in spare room", slices.Clone(kept)[:len(b)-1], api.ErrShort)
	}
}
