package sums_test

import (
	"bytes"
	"hash/adler32"
	"hash/crc32"
	"math"
	"math/rand"
	"testing"

	"lightwell/sums"
)

// crcTold is Crc as P4.1 tells it, bit by bit.
func crcTold(sum uint32, b []byte) uint32 {
	c := sum ^ math.MaxUint32
	for _, x := range b {
		c ^= uint32(x)
		for range 8 {
			if c%2 == 1 {
				c = c/2 ^ 3988292384
			} else {
				c /= 2
			}
		}
	}
	return c ^ math.MaxUint32
}

// adlerTold is Adler as P4.2 tells it, with a rest behind each byte.
func adlerTold(sum uint32, b []byte) uint32 {
	x, y := uint64(sum%65536)%65521, uint64(sum/65536)%65521
	for _, n := range b {
		x = (x + uint64(n)) % 65521
		y = (y + x) % 65521
	}
	return uint32(y*65536 + x)
}

// starts are sums of bytes, sums that are none, each single bit, and drawn ones.
func starts() []uint32 {
	l := []uint32{0, 1, 2, 255, 256, 65520, 65521, 65522, 65535, 65536, 65537,
		65519 << 16, 65520 << 16, 65521 << 16, 65522 << 16, 65535 << 16,
		65520<<16 | 65520, 65521<<16 | 65521, 65535<<16 | 65520, 65520<<16 | 65535,
		3988292384, math.MaxUint32 - 1, math.MaxUint32}
	for k := range 32 {
		l = append(l, 1<<k, ^uint32(1<<k))
	}
	r := rand.New(rand.NewSource(4))
	for range 40 {
		l = append(l, r.Uint32())
	}
	return l
}

// texts are none, single bytes, all bytes, the same byte often, and drawn ones.
func texts() [][]byte {
	r := rand.New(rand.NewSource(5))
	l := [][]byte{nil, {}, []byte("123456789"), []byte("Wikipedia"), []byte("a picture, piece by piece")}
	every := make([]byte, 256)
	for i := range every {
		every[i] = byte(i)
		l = append(l, []byte{byte(i)})
	}
	l = append(l, every)
	for _, n := range []int{2, 3, 4, 7, 8, 9, 255, 256, 257, 1000, 6000} {
		drawn := make([]byte, n)
		r.Read(drawn)
		l = append(l, drawn, make([]byte, n), bytes.Repeat([]byte{255}, n), bytes.Repeat([]byte{128}, n))
	}
	return l
}

// checkBoth holds both sums against what the promises tell.
func checkBoth(t *testing.T, sum uint32, b []byte) {
	t.Helper()
	if got, want := sums.Crc(sum, b), crcTold(sum, b); got != want {
		t.Errorf("Crc(%d, %d bytes) = %d, want %d", sum, len(b), got, want)
	}
	if got, want := sums.Adler(sum, b), adlerTold(sum, b); got != want {
		t.Errorf("Adler(%d, %d bytes) = %d, want %d", sum, len(b), got, want)
	}
}

// P4.1, P4.2: the chapter's examples.
func TestExamples(t *testing.T) {
	if n := sums.Crc(0, []byte("123456789")); n != 3421780262 {
		t.Errorf("Crc = %d", n)
	}
	if n := sums.Adler(1, []byte("Wikipedia")); n != 300286872 {
		t.Errorf("Adler = %d", n)
	}
	for _, none := range [][]byte{nil, {}} {
		if n := sums.Crc(0, none); n != 0 {
			t.Errorf("Crc of nothing = %d", n)
		}
		if n := sums.Adler(1, none); n != 1 {
			t.Errorf("Adler of nothing = %d", n)
		}
	}
}

// P4.1: sums that are known: of texts, of a chunk's name that ends a picture, of noughts and of the greatest bytes.
func TestCrcKnown(t *testing.T) {
	for _, c := range []struct {
		text string
		want uint32
	}{
		{"a", 0xe8b7be43},
		{"abc", 0x352441c2},
		{"IEND", 0xae426082},
		{"The quick brown fox jumps over the lazy dog", 0x414fa339},
		{"\x00", 0xd202ef8d},
		{"\x00\x00\x00\x00", 0x2144df1c},
		{"\xff\xff\xff\xff", 0xffffffff},
	} {
		if got := sums.Crc(0, []byte(c.text)); got != c.want {
			t.Errorf("Crc(0, %q) = %d, want %d", c.text, got, c.want)
		}
	}
}

// P4.2: sums that are known, and those that can be reckoned by hand: of two bytes, of sums that reach 65521 or pass it.
func TestAdlerKnown(t *testing.T) {
	for _, c := range []struct {
		sum  uint32
		text string
		want uint32
	}{
		{1, "a", 0x00620062},
		{1, "abc", 0x024d0127},
		{1, "message digest", 0x29750586},
		{0, "\x01\x02", 4<<16 | 3},
		{65520, "\x00", 65520<<16 | 65520},
		{65520, "\x01", 0},
		{65520, "\xff", 254<<16 | 254},
		{65520<<16 | 65520, "\x02", 1},
		{65521, "", 0},
		{65521 << 16, "", 0},
		{65535<<16 | 65535, "", 14<<16 | 14},
		{65535<<16 | 65535, "\x01", 29<<16 | 15},
	} {
		if got := sums.Adler(c.sum, []byte(c.text)); got != c.want {
			t.Errorf("Adler(%d, %q) = %d, want %d", c.sum, c.text, got, c.want)
		}
	}
}

// P4.1, P4.2: sums are what the promises tell, from sums that are of no bytes, too.
func TestAsTold(t *testing.T) {
	for _, b := range texts() {
		for _, sum := range starts() {
			checkBoth(t, sum, b)
		}
	}
}

// P4.1: no byte at all gives the sum itself; a byte that is like the turned sum's lowest eight bits does nothing but shift it.
func TestCrcKeepsAndShifts(t *testing.T) {
	for _, sum := range starts() {
		if got := sums.Crc(sum, nil); got != sum {
			t.Errorf("Crc(%d, none) = %d", sum, got)
		}
		shifted := ^(^sum >> 8)
		if got := sums.Crc(sum, []byte{byte(^sum)}); got != shifted {
			t.Errorf("Crc(%d, its lowest bits) = %d, want %d", sum, got, shifted)
		}
	}
}

// P4.2: the greatest bytes, from the greatest rests on: lengths at which 32 bits would wrap without a rest between, and those around them.
func TestLongGreatest(t *testing.T) {
	long := bytes.Repeat([]byte{255}, 1<<18+3)
	for _, n := range []int{5549, 5550, 5551, 5552, 5553, 5554, 5802, 5803, 5804, 5805, 11103, 11104, 11105, 65520, 65521, 65522, 1 << 16, 1 << 18, len(long)} {
		for _, sum := range []uint32{0, 1, 65520<<16 | 65520, 65521<<16 | 65521, math.MaxUint32} {
			checkBoth(t, sum, long[:n])
		}
	}
}

// P4.1, P4.2: long texts of drawn bytes have the sums that the library tells.
func TestLongDrawn(t *testing.T) {
	r := rand.New(rand.NewSource(6))
	for _, n := range []int{1 << 10, 1<<16 - 1, 1 << 20, 3<<20 + 1} {
		b := make([]byte, n)
		r.Read(b)
		if got, want := sums.Crc(0, b), crc32.ChecksumIEEE(b); got != want {
			t.Errorf("Crc of %d bytes = %d, want %d", n, got, want)
		}
		if got, want := sums.Adler(1, b), adler32.Checksum(b); got != want {
			t.Errorf("Adler of %d bytes = %d, want %d", n, got, want)
		}
	}
}

// P4.3: the sum of bytes, and then of others, is that of both, wherever they are cut.
func TestPieces(t *testing.T) {
	for _, b := range texts() {
		step := max(1, len(b)/40)
		for cut := 0; cut <= len(b); cut += step {
			for _, sum := range []uint32{0, 1, 65521<<16 | 65521, math.MaxUint32, 1 << 31} {
				if got, want := sums.Crc(sums.Crc(sum, b[:cut]), b[cut:]), sums.Crc(sum, b); got != want {
					t.Errorf("Crc from %d, %d bytes cut at %d: %d, want %d", sum, len(b), cut, got, want)
				}
				if got, want := sums.Adler(sums.Adler(sum, b[:cut]), b[cut:]), sums.Adler(sum, b); got != want {
					t.Errorf("Adler from %d, %d bytes cut at %d: %d, want %d", sum, len(b), cut, got, want)
				}
			}
		}
	}
}

// P4.3: byte by byte, it is the same again.
func TestByteByByte(t *testing.T) {
	b := bytes.Repeat([]byte("\x00\xff\x01\x80pieces"), 1200)
	crc, adler := uint32(0), uint32(1)
	for i := range b {
		crc, adler = sums.Crc(crc, b[i:i+1]), sums.Adler(adler, b[i:i+1])
	}
	if want := sums.Crc(0, b); crc != want {
		t.Errorf("Crc byte by byte = %d, want %d", crc, want)
	}
	if want := sums.Adler(1, b); adler != want {
		t.Errorf("Adler byte by byte = %d, want %d", adler, want)
	}
}

// R3, R4: what is handed in stays as it is, its spare room too, and a sum is the same whenever it is asked.
func TestHandedIn(t *testing.T) {
	whole := bytes.Repeat([]byte{7, 0, 255}, 4000)
	kept := bytes.Clone(whole)
	b := whole[3:9000]
	crc, adler := sums.Crc(5, b), sums.Adler(5, b)
	if !bytes.Equal(whole, kept) {
		t.Error("what was handed in is changed")
	}
	sums.Crc(math.MaxUint32, whole)
	sums.Adler(math.MaxUint32, whole)
	if sums.Crc(5, b) != crc || sums.Adler(5, b) != adler {
		t.Error("a sum is not the same twice")
	}
}
