package texture_test

import (
	"bytes"
	stdzlib "compress/zlib"
	"encoding/binary"
	"hash/crc32"
	"math/rand"
	"slices"
	"strconv"
	"testing"

	"lightwell/api"
	"lightwell/texture"
	"lightwell/zlib"
)

const begins = "\x89PNG\r\n\x1a\n"

// sort is what a picture is like: columns, rows, kind 2 or 6, whether it is interlaced.
type sort struct {
	w, h  int
	kind  byte
	laced bool
}

func (s sort) String() string {
	name := strconv.Itoa(s.w) + " by " + strconv.Itoa(s.h) + " of kind " + strconv.Itoa(int(s.kind))
	if s.laced {
		return name + ", interlaced"
	}
	return name
}

// size tells how many bytes a pixel has.
func (s sort) size() int {
	if s.kind == 2 {
		return 3
	}
	return 4
}

// sorts are all four of a size.
func sorts(w, h int) []sort {
	return []sort{{w, h, 2, false}, {w, h, 6, false}, {w, h, 2, true}, {w, h, 6, true}}
}

// smallSorts are those of all sizes up to 18 by 18: with one column, one row, passes without either.
func smallSorts() []sort {
	var all []sort
	for w := 1; w <= 18; w++ {
		for h := 1; h <= 18; h++ {
			all = append(all, sorts(w, h)...)
		}
	}
	return all
}

// greatSorts have the greatest side, or nearly.
func greatSorts() []sort {
	return slices.Concat(sorts(1024, 1), sorts(1, 1024), sorts(1023, 2), sorts(2, 1023), sorts(1024, 7), sorts(5, 1024))
}

// passTold tells in which pass a pixel is, by the picture of eight by eight pixels that the PNG specification draws.
func passTold(column, row int) byte {
	drawing := []string{
		"16462646",
		"77777777",
		"56565656",
		"77777777",
		"36463646",
		"77777777",
		"56565656",
		"77777777",
	}
	return drawing[row%8][column%8]
}

// gridTold tells the rows of a picture, or of each of its passes: of each row the numbers of its pixels.
func gridTold(s sort) [][][]int {
	if !s.laced {
		var rows [][]int
		for y := range s.h {
			var row []int
			for x := range s.w {
				row = append(row, y*s.w+x)
			}
			rows = append(rows, row)
		}
		return [][][]int{rows}
	}
	var grids [][][]int
	for pass := byte('1'); pass <= '7'; pass++ {
		var rows [][]int
		for y := range s.h {
			var row []int
			for x := range s.w {
				if passTold(x, y) == pass {
					row = append(row, y*s.w+x)
				}
			}
			if len(row) > 0 {
				rows = append(rows, row)
			}
		}
		if len(rows) > 0 {
			grids = append(grids, rows)
		}
	}
	return grids
}

// guessTold tells what a filter adds where a, b and c stand round about, as the chapter's words have it.
func guessTold(filter byte, a, b, c int) int {
	switch filter {
	case 0:
		return 0
	case 1:
		return a
	case 2:
		return b
	case 3:
		return (a + b) / 2
	}
	away := func(x int) int {
		if x < a+b-c {
			return a + b - c - x
		}
		return x - (a + b - c)
	}
	if away(a) <= away(b) && away(a) <= away(c) {
		return a
	}
	if away(b) <= away(c) {
		return b
	}
	return c
}

// rowsTold tells the rows of a picture whose pixels are pix (four bytes each), and where their filters stand;
// filter tells each row's, by its number.
func rowsTold(s sort, pix []byte, filter func(row int) byte) (b []byte, places []int) {
	k := s.size()
	for _, rows := range gridTold(s) {
		above := make([]int, k*len(rows[0]))
		for _, numbers := range rows {
			var plain []int
			for _, n := range numbers {
				for i := range k {
					plain = append(plain, int(pix[4*n+i]))
				}
			}
			f := filter(len(places))
			places = append(places, len(b))
			b = append(b, f)
			for i, x := range plain {
				left, corner := 0, 0
				if i >= k {
					left, corner = plain[i-k], above[i-k]
				}
				b = append(b, byte(x-guessTold(f, left, above[i], corner)))
			}
			above = plain
		}
	}
	return b, places
}

// packer makes the library's streams; it is made once, for it takes much room.
var packer = stdzlib.NewWriter(nil)

// packed tells bytes as a stream, by the library.
func packed(b []byte) []byte {
	var out bytes.Buffer
	packer.Reset(&out)
	packer.Write(b)
	packer.Close()
	return out.Bytes()
}

// headTold tells what a head says.
func headTold(s sort) []byte {
	says := binary.BigEndian.AppendUint32(nil, uint32(s.w))
	says = binary.BigEndian.AppendUint32(says, uint32(s.h))
	says = append(says, 8, s.kind, 0, 0, 0)
	if s.laced {
		says[12] = 1
	}
	return says
}

// chunkTold tells a chunk.
func chunkTold(kind string, b []byte) []byte {
	out := binary.BigEndian.AppendUint32(nil, uint32(len(b)))
	out = append(append(out, kind...), b...)
	return binary.BigEndian.AppendUint32(out, crc32.ChecksumIEEE(out[4:]))
}

// fileTold tells a picture of a stream; the chunks beside it stand between the head and the stream.
func fileTold(s sort, stream []byte, beside ...[]byte) []byte {
	b := slices.Concat([]byte(begins), chunkTold("IHDR", headTold(s)), slices.Concat(beside...))
	for len(stream) > api.MaxData {
		b = append(b, chunkTold("IDAT", stream[:api.MaxData])...)
		stream = stream[api.MaxData:]
	}
	return slices.Concat(b, chunkTold("IDAT", stream), chunkTold("IEND", nil))
}

// opaque tells the pixels that a picture of that kind says: of kind 2 each one's last byte is 255.
func opaque(s sort, pix []byte) []byte {
	told := slices.Clone(pix)
	for i := 3; i < len(told) && s.kind == 2; i += 4 {
		told[i] = 255
	}
	return told
}

// pixels are those of pictures of a size, by name: four bytes a pixel, row by row.
func pixels(w, h int) map[string][]byte {
	r := rand.New(rand.NewSource(int64(w*2000 + h)))
	drawn, few, steps := make([]byte, 4*w*h), make([]byte, 4*w*h), make([]byte, 4*w*h)
	for i := range drawn {
		drawn[i] = byte(r.Intn(256))
		few[i] = []byte{0, 1, 128, 255}[r.Intn(4)]
		steps[i] = byte(i / 4 * (i%4 + 1))
	}
	return map[string][]byte{
		"noughts": make([]byte, 4*w*h),
		"white":   bytes.Repeat([]byte{255}, 4*w*h),
		"drawn":   drawn,
		"few":     few,
		"steps":   steps,
	}
}

// mustBe tells where bytes are other ones than wanted.
func mustBe(t *testing.T, name string, got, want []byte) {
	t.Helper()
	if bytes.Equal(got, want) {
		return
	}
	i := 0
	for i < min(len(got), len(want)) && got[i] == want[i] {
		i++
	}
	t.Errorf("%s: %d bytes, want %d; other ones from %d on", name, len(got), len(want), i)
}

// mustDecode decodes, and it must be that picture.
func mustDecode(t *testing.T, name string, b []byte, w, h int, pix []byte) {
	t.Helper()
	x, e := texture.Decode(b)
	if e != api.OK || x.W != w || x.H != h {
		t.Errorf("%s: %d by %d, error %d; want %d by %d", name, x.W, x.H, e, w, h)
		return
	}
	mustBe(t, name, x.Pix, pix)
}

// mustFail decodes, and it must be that error, and nothing beside it.
func mustFail(t *testing.T, name string, b []byte, want api.Errno) {
	t.Helper()
	if x, e := texture.Decode(b); e != want || x.W != 0 || x.H != 0 || len(x.Pix) != 0 {
		t.Errorf("%s: %d by %d, %d bytes, error %d; want error %d", name, x.W, x.H, len(x.Pix), e, want)
	}
}

// decodeTold tells what Decode must answer, as the chapter's words have it, step by step.
func decodeTold(b []byte) (api.Texture, api.Errno) {
	if len(b) < 8 || string(b[:8]) != begins {
		return api.Texture{}, api.ErrKind
	}
	var s sort
	var stream []byte
	for at, first := 8, true; ; first = false {
		if len(b)-at < 4 {
			return api.Texture{}, api.ErrShort
		}
		n := int64(binary.BigEndian.Uint32(b[at:]))
		if n > 1<<20 {
			return api.Texture{}, api.ErrLong
		}
		end := at + 12 + int(n)
		if len(b) < end {
			return api.Texture{}, api.ErrShort
		}
		kind, says := string(b[at+4:at+8]), b[at+8:end-4]
		if binary.BigEndian.Uint32(b[end-4:]) != crc32.ChecksumIEEE(b[at+4:end-4]) {
			return api.Texture{}, api.ErrSum
		}
		e := chunkMayBe(first, kind, says)
		if e != api.OK {
			return api.Texture{}, e
		}
		at = end
		if kind == "IHDR" {
			s = sort{int(binary.BigEndian.Uint32(says)), int(binary.BigEndian.Uint32(says[4:])), says[9], says[12] == 1}
		}
		if kind == "IDAT" {
			stream = append(stream, says...)
		}
		if kind == "IEND" {
			if len(b) > end {
				return api.Texture{}, api.ErrBits
			}
			return streamTold(s, stream)
		}
	}
}

// chunkMayBe tells what is wrong with a chunk by itself.
func chunkMayBe(first bool, kind string, says []byte) api.Errno {
	if first != (kind == "IHDR") || first && len(says) != 13 {
		return api.ErrBits
	}
	if first {
		w, h := binary.BigEndian.Uint32(says), binary.BigEndian.Uint32(says[4:])
		if w == 0 || h == 0 || w > 1024 || h > 1024 {
			return api.ErrArg
		}
		for _, may := range []string{"\x08\x02\x00\x00\x00", "\x08\x02\x00\x00\x01", "\x08\x06\x00\x00\x00", "\x08\x06\x00\x00\x01"} {
			if string(says[8:]) == may {
				return api.OK
			}
		}
		return api.ErrKind
	}
	if kind == "IEND" && len(says) > 0 {
		return api.ErrBits
	}
	if kind != "IDAT" && kind != "IEND" && kind[0] >= 65 && kind[0] <= 90 {
		return api.ErrKind
	}
	return api.OK
}

// streamTold tells the picture of a stream.
func streamTold(s sort, stream []byte) (api.Texture, api.Errno) {
	grids, k, want := gridTold(s), s.size(), 0
	for _, rows := range grids {
		for _, numbers := range rows {
			want += 1 + k*len(numbers)
		}
	}
	b, e := zlib.Open(stream, want)
	if e != api.OK {
		return api.Texture{}, e
	}
	if len(b) < want {
		return api.Texture{}, api.ErrShort
	}
	pix := bytes.Repeat([]byte{255}, 4*s.w*s.h)
	for _, rows := range grids {
		above := make([]byte, k*len(rows[0]))
		for _, numbers := range rows {
			f, row := b[0], slices.Clone(b[1:1+k*len(numbers)])
			b = b[1+len(row):]
			if f > 4 {
				return api.Texture{}, api.ErrBits
			}
			for i := range row {
				left, corner := 0, 0
				if i >= k {
					left, corner = int(row[i-k]), int(above[i-k])
				}
				row[i] += byte(guessTold(f, left, int(above[i]), corner))
				pix[4*numbers[i/k]+i%k] = row[i]
			}
			above = row
		}
	}
	return api.Texture{W: s.w, H: s.h, Pix: pix}, api.OK
}
