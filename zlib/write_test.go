package zlib_test

import (
	"bytes"
	stdzlib "compress/zlib"
	"hash/adler32"
	"io"
	"math/rand"
	"slices"
	"strconv"
	"strings"
	"testing"

	"lightwell/api"
	"lightwell/deflate"
	"lightwell/zlib"
)

// sumTold tells the four bytes of bytes' Adler-32, the highest first, as the library has it.
func sumTold(b []byte) []byte {
	h := adler32.New()
	h.Write(b)
	return h.Sum(nil)
}

// streamTold tells the stream of bytes, as the chapter's words have it.
func streamTold(b []byte) []byte {
	return slices.Concat([]byte{120, 1}, deflate.Whole(b), sumTold(b))
}

// drawn tells n bytes below k.
func drawn(r *rand.Rand, n, k int) []byte {
	b := make([]byte, n)
	for i := range b {
		b[i] = byte(r.Intn(k))
	}
	return b
}

// inputs are bytes of many kinds, by name: fewer than a block takes, just as many, more.
func inputs() map[string][]byte {
	r := rand.New(rand.NewSource(8))
	m := map[string][]byte{
		"none":     nil,
		"a":        []byte("a"),
		"runs":     bytes.Repeat([]byte{255}, 20000),
		"noughts":  make([]byte, 9000),
		"text":     []byte(strings.Repeat("with a head and a sum, ", 500)),
		"drawn":    drawn(r, 13000, 256),
		"of two":   drawn(r, 9000, 2),
		"runs and": append(bytes.Repeat([]byte("ab"), 3000), drawn(r, 6000, 256)...),
	}
	for _, n := range []int{1, 2, 3, 100, 4095, 4096, 4097, 8192, 8193} {
		m["drawn "+strconv.Itoa(n)] = drawn(r, n, 256)
		m["of five "+strconv.Itoa(n)] = drawn(r, n, 5)
	}
	return m
}

// mustWrite writes, and it must be done.
func mustWrite(t *testing.T, w *zlib.Writer, b []byte) []byte {
	t.Helper()
	out, e := w.Write(b)
	if e != api.OK {
		t.Fatalf("Write of %d bytes: %d", len(b), e)
	}
	return out
}

// mustEnd ends, and it must be done.
func mustEnd(t *testing.T, w *zlib.Writer) []byte {
	t.Helper()
	out, e := w.End()
	if e != api.OK {
		t.Fatalf("End: %d", e)
	}
	return out
}

// mustRefuse writes and ends, and both must be that error, twice.
func mustRefuse(t *testing.T, w *zlib.Writer, want api.Errno) {
	t.Helper()
	for range 2 {
		for _, b := range [][]byte{nil, {}, []byte("a"), make([]byte, 9000)} {
			if out, e := w.Write(b); len(out) != 0 || e != want {
				t.Errorf("Write of %d bytes: %v, %d; want error %d", len(b), out, e, want)
			}
		}
		if out, e := w.End(); len(out) != 0 || e != want {
			t.Errorf("End: %v, %d; want error %d", out, e, want)
		}
	}
}

// mustBe tells where bytes are other ones than wanted.
func mustBe(t *testing.T, name string, got, want []byte) {
	t.Helper()
	if bytes.Equal(got, want) {
		return
	}
	i := 0
	for i < min(len(got), len(want)) && got[i] == want[i] {
		i++
	}
	t.Errorf("%s: %d bytes, want %d; other ones from %d on", name, len(got), len(want), i)
}

// whole writes all bytes at once, and tells all that comes of it.
func whole(t *testing.T, b []byte) []byte {
	t.Helper()
	w := zlib.New()
	return slices.Concat(mustWrite(t, w, b), mustEnd(t, w))
}

// P8.1: the chapter's examples.
func TestWriteExamples(t *testing.T) {
	mustBe(t, "no bytes", mustEnd(t, zlib.New()), []byte{120, 1, 3, 0, 0, 0, 0, 1})
	mustBe(t, "a", whole(t, []byte("a")), []byte{120, 1, 75, 4, 0, 0, 98, 0, 98})
}

// P8.1: a stream is its head, its blocks and its sum.
func TestWhole(t *testing.T) {
	for name, in := range inputs() {
		mustBe(t, name, whole(t, in), streamTold(in))
	}
}

// P8.1: each Write tells what deflate's does, the first time with the head ahead; End what deflate's does, and the sum.
func TestPieces(t *testing.T) {
	r := rand.New(rand.NewSource(81))
	for name, in := range inputs() {
		for _, most := range []int{1, 2, 100, 4096, 4097, 9000} {
			w, d := zlib.New(), deflate.New()
			var got []byte
			head := []byte{120, 1}
			for at := 0; at < len(in); {
				piece := in[at:min(len(in), at+r.Intn(most+1))]
				out := mustWrite(t, w, piece)
				blocks, _ := d.Write(piece)
				mustBe(t, name+", to "+strconv.Itoa(at), out, append(head, blocks...))
				got, head = append(got, out...), nil
				at += len(piece)
			}
			last := mustEnd(t, w)
			blocks, _ := d.End()
			mustBe(t, name+", the end", last, slices.Concat(head, blocks, sumTold(in)))
			mustBe(t, name+", in pieces", append(got, last...), streamTold(in))
		}
	}
}

// P8.1: wherever bytes are cut in two, the same comes out.
func TestCutInTwo(t *testing.T) {
	in := append(bytes.Repeat([]byte("cut "), 1000), drawn(rand.New(rand.NewSource(82)), 600, 256)...)
	want := streamTold(in)
	for at := 0; at <= len(in); at += 1 + at%7 {
		w := zlib.New()
		got := slices.Concat(mustWrite(t, w, in[:at]), mustWrite(t, w, in[at:]), mustEnd(t, w))
		mustBe(t, "cut at "+strconv.Itoa(at), got, want)
	}
}

// P8.1: the head goes out once: by the first Write, be it of no bytes, else by End.
func TestHeadOnce(t *testing.T) {
	for _, none := range [][]byte{nil, {}} {
		w := zlib.New()
		mustBe(t, "the first Write, of no bytes", mustWrite(t, w, none), []byte{120, 1})
		mustBe(t, "the second", mustWrite(t, w, none), nil)
		mustBe(t, "the end", mustEnd(t, w), []byte{3, 0, 0, 0, 0, 1})

		w = zlib.New()
		mustBe(t, "none ahead", mustWrite(t, w, none), []byte{120, 1})
		mustBe(t, "a", mustWrite(t, w, []byte("a")), nil)
		mustBe(t, "none behind", mustWrite(t, w, none), nil)
		mustBe(t, "the end of a", mustEnd(t, w), []byte{75, 4, 0, 0, 98, 0, 98})
	}
	w := zlib.New()
	mustBe(t, "a first", mustWrite(t, w, []byte("a")), []byte{120, 1})
	mustBe(t, "its end", mustEnd(t, w), []byte{75, 4, 0, 0, 98, 0, 98})
}

// P8.1: a block that is just full is kept back; one byte more, and it goes out behind the head, or behind nothing.
func TestKeptBack(t *testing.T) {
	in := drawn(rand.New(rand.NewSource(83)), 4097, 256)
	stored := append([]byte{0, 0, 16, 255, 239}, in[:4096]...)
	w := zlib.New()
	mustBe(t, "just full", mustWrite(t, w, in[:4096]), []byte{120, 1})
	mustBe(t, "one more", mustWrite(t, w, in[4096:]), stored)
	w = zlib.New()
	mustBe(t, "both at once", mustWrite(t, w, in), append([]byte{120, 1}, stored...))
}

// P8.1: behind End nothing is written any more, however it was ended.
func TestEnded(t *testing.T) {
	for _, in := range [][]byte{nil, []byte("a"), make([]byte, 9000)} {
		w := zlib.New()
		mustWrite(t, w, in)
		mustEnd(t, w)
		mustRefuse(t, w, api.ErrState)
	}
	w := zlib.New()
	mustEnd(t, w)
	mustRefuse(t, w, api.ErrState)
}

// P8.1, R5: writers that there are not, and those that no call made.
func TestNoWriter(t *testing.T) {
	for _, w := range []*zlib.Writer{nil, {}, new(zlib.Writer)} {
		mustRefuse(t, w, api.ErrNil)
	}
}

// P8.3: another reader of streams reads what is written.
func TestAnotherReader(t *testing.T) {
	for name, in := range inputs() {
		r, err := stdzlib.NewReader(bytes.NewReader(whole(t, in)))
		if err != nil {
			t.Errorf("%s: %v", name, err)
			continue
		}
		got, err := io.ReadAll(r)
		if err != nil {
			t.Errorf("%s: %v", name, err)
		}
		mustBe(t, name, got, in)
	}
}

// R3: what is written stays as it is, its spare room too; and nothing done to it later is felt.
func TestWriteKeepsNothing(t *testing.T) {
	in := drawn(rand.New(rand.NewSource(84)), 9000, 7)
	want := streamTold(in)
	room := append(slices.Clone(in), 9, 8, 7)
	kept := slices.Clone(room)
	w := zlib.New()
	got := mustWrite(t, w, room[:5000])
	got = append(got, mustWrite(t, w, room[5000:9000])...)
	mustBe(t, "what was handed in", room, kept)
	clear(room)
	mustBe(t, "written and cleared", append(got, mustEnd(t, w)...), want)
}

// R3: what is told is new: what is done to it is not felt by the writer, nor by others.
func TestToldIsNew(t *testing.T) {
	in := drawn(rand.New(rand.NewSource(85)), 13000, 9)
	var got []byte
	w := zlib.New()
	for at := 0; at < len(in); at += 1000 {
		out := mustWrite(t, w, in[at:at+1000])
		got = append(got, out...)
		clear(out[:cap(out)])
	}
	out := mustEnd(t, w)
	got = append(got, out...)
	clear(out[:cap(out)])
	mustBe(t, "cleared each time", got, streamTold(in))
	mustBe(t, "a new one", mustEnd(t, zlib.New()), []byte{120, 1, 3, 0, 0, 0, 0, 1})
}

// R4: two writers have nothing in common.
func TestApart(t *testing.T) {
	in := inputs()
	one, other := in["text"], in["drawn"]
	a, b := zlib.New(), zlib.New()
	var x, y []byte
	for i := range 10 {
		x = append(x, mustWrite(t, a, one[len(one)*i/10:len(one)*(i+1)/10])...)
		y = append(y, mustWrite(t, b, other[len(other)*i/10:len(other)*(i+1)/10])...)
	}
	mustBe(t, "one", append(x, mustEnd(t, a)...), streamTold(one))
	mustBe(t, "other", append(y, mustEnd(t, b)...), streamTold(other))
}
