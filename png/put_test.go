package png_test

import (
	"bytes"
	"encoding/binary"
	"hash/crc32"
	"image"
	stdpng "image/png"
	"math/rand"
	"slices"
	"testing"

	"lightwell/api"
	"lightwell/png"
	"lightwell/zlib"
)

// chunkTold tells a chunk, as the chapter's words have it.
func chunkTold(kind string, b []byte) []byte {
	out := binary.BigEndian.AppendUint32(nil, uint32(len(b)))
	out = append(append(out, kind...), b...)
	return binary.BigEndian.AppendUint32(out, crc32.ChecksumIEEE(out[4:]))
}

// headTold tells the head, as the chapter's words have it.
func headTold(s size) []byte {
	says := binary.BigEndian.AppendUint32(nil, uint32(s.w))
	says = binary.BigEndian.AppendUint32(says, uint32(s.h))
	says = append(says, 8, 6, 0, 0, 1)
	return append([]byte("\x89PNG\r\n\x1a\n"), chunkTold("IHDR", says)...)
}

// putsTold tells what each Put must tell, as the chapter's words have it; pix are the pixels, row by row.
func putsTold(s size, pix []byte) [][]byte {
	order := orderTold(s.w, s.h)
	stream := zlib.New()
	var puts [][]byte
	for i, n := range order {
		b := slices.Clone(pix[4*n : 4*n+4])
		if i == 0 || order[i-1]/s.w != n/s.w || passTold(s.w, order[i-1]) != passTold(s.w, n) {
			b = append([]byte{0}, b...)
		}
		data, _ := stream.Write(b)
		if i == len(order)-1 {
			last, _ := stream.End()
			data = append(data, last...)
		}
		var out []byte
		if i == 0 {
			out = headTold(s)
		}
		if len(data) > 0 {
			out = append(out, chunkTold("IDAT", data)...)
		}
		if i == len(order)-1 {
			out = append(out, chunkTold("IEND", nil)...)
		}
		puts = append(puts, out)
	}
	return puts
}

// pixels are pictures of a size, by name: four bytes a pixel, row by row.
func pixels(s size) map[string][]byte {
	r := rand.New(rand.NewSource(int64(s.w*2000 + s.h)))
	drawn, few, steps := make([]byte, 4*s.w*s.h), make([]byte, 4*s.w*s.h), make([]byte, 4*s.w*s.h)
	for i := range drawn {
		drawn[i] = byte(r.Intn(256))
		few[i] = byte(r.Intn(3))
		steps[i] = byte(i / 4 * (i%4 + 1))
	}
	return map[string][]byte{
		"noughts": make([]byte, 4*s.w*s.h),
		"white":   bytes.Repeat([]byte{255}, 4*s.w*s.h),
		"drawn":   drawn,
		"few":     few,
		"steps":   steps,
	}
}

// mustNew makes an encoder, and it must be done.
func mustNew(t *testing.T, s size) *png.Encoder {
	t.Helper()
	e, a := png.New(s.w, s.h)
	if e == nil || a != api.OK {
		t.Fatalf("New of %v: %v, %d", s, e, a)
	}
	return e
}

// mustPut puts the pixel of that number, and it must be done.
func mustPut(t *testing.T, e *png.Encoder, pix []byte, n int) []byte {
	t.Helper()
	b, a := e.Put([4]byte(pix[4*n:]))
	if a != api.OK {
		t.Fatalf("Put of pixel %d: %d", n, a)
	}
	return b
}

// mustRefuse puts pixels, and each must be that error.
func mustRefuse(t *testing.T, e *png.Encoder, want api.Errno) {
	t.Helper()
	for _, pixel := range [][4]byte{{}, {1, 2, 3, 255}, {255, 255, 255, 255}} {
		if b, a := e.Put(pixel); len(b) != 0 || a != want {
			t.Errorf("Put: %v, %d; want error %d", b, a, want)
		}
		if left := e.Left(); left != 0 {
			t.Errorf("Left: %d, want 0", left)
		}
	}
}

// mustBe tells where bytes are other ones than wanted.
func mustBe(t *testing.T, name string, got, want []byte) {
	t.Helper()
	if bytes.Equal(got, want) {
		return
	}
	i := 0
	for i < min(len(got), len(want)) && got[i] == want[i] {
		i++
	}
	t.Errorf("%s: %d bytes, want %d; other ones from %d on", name, len(got), len(want), i)
}

// whole puts all pixels, and tells all that comes of it.
func whole(t *testing.T, s size, pix []byte) []byte {
	t.Helper()
	e := mustNew(t, s)
	var all []byte
	for _, n := range png.Order(s.w, s.h) {
		all = append(all, mustPut(t, e, pix, n)...)
	}
	return all
}

// P9.1: sides that may not be, each and both.
func TestNewWrongSizes(t *testing.T) {
	for _, s := range wrongSizes() {
		if e, a := png.New(s.w, s.h); e != nil || a != api.ErrArg {
			t.Errorf("New of %v: %v, %d", s, e, a)
		}
	}
}

// P9.1: sides that may be, from the least to the greatest.
func TestNewSizes(t *testing.T) {
	for _, s := range slices.Concat(smallSizes(), greatSizes(), []size{{1024, 1024}}) {
		if left := mustNew(t, s).Left(); left != s.w*s.h {
			t.Errorf("New of %v: %d left", s, left)
		}
	}
}

// P9.1: each pixel that is put is one less.
func TestLeft(t *testing.T) {
	for _, s := range slices.Concat(smallSizes(), greatSizes()) {
		e := mustNew(t, s)
		for left := s.w * s.h; left > 0; left-- {
			for range 2 { // to ask changes nothing
				if got := e.Left(); got != left {
					t.Fatalf("%v: %d left, want %d", s, got, left)
				}
			}
			mustPut(t, e, []byte{1, 2, 3, 4}, 0)
		}
		if got := e.Left(); got != 0 {
			t.Errorf("%v: %d left at the end", s, got)
		}
	}
}

// P9.2: what each single Put tells, of sizes and pictures of every kind.
func TestPut(t *testing.T) {
	for _, s := range append(smallSizes(), size{40, 40}, size{130, 33}, size{1, 1024}, size{1024, 1}, size{1023, 3}) {
		for name, pix := range pixels(s) {
			e := mustNew(t, s)
			puts := putsTold(s, pix)
			for i, n := range orderTold(s.w, s.h) {
				mustBe(t, name+" of "+s.String(), mustPut(t, e, pix, n), puts[i])
			}
			mustRefuse(t, e, api.ErrState)
		}
	}
}

// P9.2: of one pixel all comes with the one Put, told by hand.
func TestOnePixel(t *testing.T) {
	want := []byte{
		137, 80, 78, 71, 13, 10, 26, 10,
		0, 0, 0, 13, 73, 72, 68, 82, 0, 0, 0, 1, 0, 0, 0, 1, 8, 6, 0, 0, 1, 104, 18, 244, 31,
		0, 0, 0, 10, 73, 68, 65, 84, 120, 1, 99, 0, 1, 0, 0, 5, 0, 1,
	}
	want = binary.BigEndian.AppendUint32(want, crc32.ChecksumIEEE(want[len(want)-14:]))
	want = append(want, 0, 0, 0, 0, 73, 69, 78, 68, 174, 66, 96, 130)
	e := mustNew(t, size{1, 1})
	mustBe(t, "one pixel", mustPut(t, e, make([]byte, 4), 0), want)
	mustRefuse(t, e, api.ErrState)
	if len(want) != 67 { // so many bytes DOC.md's example 4 has
		t.Error(len(want))
	}
	if b := whole(t, size{1, 1}, []byte{255, 127, 0, 255}); len(b) != 70 { // and so many its example 3
		t.Error(len(b))
	}
}

// P9.2: the first Put tells the head and the stream's first bytes; then there is nothing, until a block of the stream is full.
func TestPutThatTellsNothing(t *testing.T) {
	s := size{1024, 2}
	pix := pixels(s)["drawn"]
	e := mustNew(t, s)
	written, chunks := 0, 0
	for i, n := range orderTold(s.w, s.h) {
		b := mustPut(t, e, pix, n)
		ahead := written
		written += 4
		if slices.Contains([]int{0, 128, 256, 512, 1024}, i) { // where a row of a pass begins
			written++
		}
		switch {
		case i == 0:
			mustBe(t, "the first", b, append(headTold(s), chunkTold("IDAT", []byte{120, 1})...))
		case i == s.w*s.h-1:
			mustBe(t, "the last one's end", b[max(0, len(b)-12):], chunkTold("IEND", nil))
		case (ahead-1)/4096 < (written-1)/4096:
			chunks++
			if len(b) < 4096 || string(b[4:8]) != "IDAT" {
				t.Errorf("pixel %d: %d bytes", i, len(b))
			}
		case len(b) != 0:
			t.Errorf("pixel %d: %d bytes, want none", i, len(b))
		}
	}
	if chunks != 2 {
		t.Errorf("%d chunks in between", chunks)
	}
}

// P9.2, R5: encoders that there are not, and those that New did not make.
func TestNoEncoder(t *testing.T) {
	for _, e := range []*png.Encoder{nil, {}, new(png.Encoder)} {
		mustRefuse(t, e, api.ErrNil)
	}
}

// readChunk tells a chunk's kind and bytes, and what stands behind it; its length and its sum must be right.
func readChunk(t *testing.T, b []byte) (kind string, says, rest []byte) {
	t.Helper()
	if len(b) < 12 {
		t.Fatalf("%d bytes are no chunk", len(b))
	}
	n := int(binary.BigEndian.Uint32(b))
	if len(b) < n+12 {
		t.Fatalf("%d bytes are no chunk of %d", len(b), n)
	}
	if binary.BigEndian.Uint32(b[8+n:]) != crc32.ChecksumIEEE(b[4:8+n]) {
		t.Errorf("a chunk of %d bytes: another sum", n)
	}
	return string(b[4:8]), b[8 : 8+n], b[12+n:]
}

// readBack tells the pixels of a picture, row by row, in the plainest way.
func readBack(t *testing.T, s size, b []byte) []byte {
	t.Helper()
	head := headTold(s)
	if !bytes.HasPrefix(b, head) {
		t.Fatalf("%v: another head", s)
	}
	b = b[len(head):]
	var packed []byte
	kind, says := "", []byte(nil)
	for kind, says, b = readChunk(t, b); kind == "IDAT"; kind, says, b = readChunk(t, b) {
		if len(says) == 0 {
			t.Errorf("%v: a chunk without bytes", s)
		}
		packed = append(packed, says...)
	}
	if kind != "IEND" || len(says) > 0 || len(b) > 0 {
		t.Fatalf("%v: a chunk %q of %d bytes, and %d bytes behind it", s, kind, len(says), len(b))
	}
	rows, e := zlib.Open(packed, 8*s.w*s.h)
	if e != api.OK {
		t.Fatalf("%v: the stream: %d", s, e)
	}
	return unlace(t, s, rows)
}

// unlace puts the rows of the passes into one picture.
func unlace(t *testing.T, s size, rows []byte) []byte {
	t.Helper()
	pix := make([]byte, 4*s.w*s.h)
	last := -1
	for _, n := range orderTold(s.w, s.h) {
		row := int(passTold(s.w, n))*2000 + n/s.w
		if row != last {
			if len(rows) == 0 || rows[0] != 0 {
				t.Fatalf("%v: a row that does not begin with 0", s)
			}
			rows, last = rows[1:], row
		}
		if len(rows) < 4 {
			t.Fatalf("%v: no bytes are left", s)
		}
		copy(pix[4*n:], rows[:4])
		rows = rows[4:]
	}
	if len(rows) > 0 {
		t.Errorf("%v: %d bytes more", s, len(rows))
	}
	return pix
}

// mustReadBack reads a picture with the tests' own reader and with the library's, and both must tell these pixels.
func mustReadBack(t *testing.T, name string, s size, b, pix []byte) {
	t.Helper()
	mustBe(t, name+" of "+s.String()+", read plainly", readBack(t, s, b), pix)
	r := bytes.NewReader(b)
	m, err := stdpng.Decode(r)
	if err != nil {
		t.Errorf("%s of %v: %v", name, s, err)
		return
	}
	other, ok := m.(*image.NRGBA)
	if !ok || other.Rect != image.Rect(0, 0, s.w, s.h) {
		t.Errorf("%s of %v: read as a picture of %v", name, s, m.Bounds())
		return
	}
	mustBe(t, name+" of "+s.String()+", read by the library", other.Pix, pix)
}

// P9.3: what was put is read back, of sizes and pictures of every kind.
func TestReadBack(t *testing.T) {
	for _, s := range slices.Concat(smallSizes(), greatSizes(), []size{{40, 40}, {130, 33}}) {
		for name, pix := range pixels(s) {
			mustReadBack(t, name, s, whole(t, s, pix), pix)
		}
	}
}

// P9.3: so is the greatest picture there may be.
func TestReadBackGreatest(t *testing.T) {
	s := size{1024, 1024}
	all := pixels(s)
	for _, name := range []string{"steps", "drawn"} {
		mustReadBack(t, name, s, whole(t, s, all[name]), all[name])
	}
}

// R3: what is told is new: what is done to it is not felt by the encoder, nor by others.
func TestToldIsNew(t *testing.T) {
	s := size{70, 70}
	pix := pixels(s)["drawn"]
	e := mustNew(t, s)
	var got []byte
	for _, n := range orderTold(s.w, s.h) {
		b := mustPut(t, e, pix, n)
		got = append(got, b...)
		clear(b[:cap(b)])
	}
	want := slices.Concat(putsTold(s, pix)...)
	mustBe(t, "cleared each time", got, want)
	mustBe(t, "a new one", whole(t, s, pix), want)
}

// R4: two encoders have nothing in common.
func TestApart(t *testing.T) {
	s := size{50, 40}
	all := pixels(s)
	one, other := mustNew(t, s), mustNew(t, s)
	var a, b []byte
	for _, n := range orderTold(s.w, s.h) {
		a = append(a, mustPut(t, one, all["drawn"], n)...)
		b = append(b, mustPut(t, other, all["steps"], n)...)
	}
	mustBe(t, "one", a, slices.Concat(putsTold(s, all["drawn"])...))
	mustBe(t, "other", b, slices.Concat(putsTold(s, all["steps"])...))
}
