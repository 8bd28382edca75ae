package deflate_test

import (
	"bytes"
	"compress/flate"
	"io"
	"math/rand"
	"slices"
	"strconv"
	"strings"
	"testing"

	"lightwell/api"
	"lightwell/deflate"
)

// told is what the chapter's words make of bytes, told all at once: the bits of their blocks, and where each block ends.
type told struct {
	all  []byte // the bytes
	bits []byte // 0 or 1 each
	ends []int
}

// tell tells it of all bytes.
func tell(all []byte) *told {
	w := &told{all: all}
	a := 0
	for len(all)-a > 4096 {
		w.block(a, a+4096, 0)
		a += 4096
	}
	w.block(a, len(all), 1)
	return w
}

// number puts the k bits of n.
func (w *told) number(n, k int) {
	for range k {
		w.bits = append(w.bits, byte(n%2))
		n /= 2
	}
}

// code puts a Huffman code, given as a text of its bits and a number that is added to it.
func (w *told) code(first string, more int) {
	n, _ := strconv.ParseInt(first, 2, 64)
	s := strconv.FormatInt(n+int64(more), 2)
	s = strings.Repeat("0", len(first)-len(s)) + s
	for _, bit := range s {
		w.bits = append(w.bits, byte(bit-'0'))
	}
}

// symbol puts the fixed code of a symbol, as the table of RFC 1951, 3.2.6, has it.
func (w *told) symbol(s int) {
	switch {
	case s <= 143:
		w.code("00110000", s)
	case s <= 255:
		w.code("110010000", s-144)
	case s <= 279:
		w.code("0000000", s-256)
	default:
		w.code("11000000", s-280)
	}
}

// row is one of the tables of RFC 1951, 3.2.5: a code, how many bits stand behind it, the least number it stands for.
type row struct{ code, extra, least int }

// lengthRows are those of lengths.
func lengthRows() []row {
	rows := []row{{285, 0, 258}}
	for i, least := range []int{3, 4, 5, 6, 7, 8, 9, 10, 11, 13, 15, 17, 19, 23, 27, 31, 35, 43, 51, 59, 67, 83, 99, 115, 131, 163, 195, 227} {
		extra := []int{0, 0, 1, 2, 3, 4, 5}[i/4]
		rows = append([]row{{257 + i, extra, least}}, rows...)
	}
	slices.SortFunc(rows, func(a, b row) int { return b.least - a.least })
	return rows
}

// distanceRows are those of distances.
func distanceRows() []row {
	var rows []row
	leasts := []int{1, 2, 3, 4, 5, 7, 9, 13, 17, 25, 33, 49, 65, 97, 129, 193, 257, 385, 513, 769, 1025, 1537, 2049, 3073, 4097, 6145, 8193, 12289, 16385, 24577}
	for i, least := range leasts {
		rows = append(rows, row{i, max(0, i/2-1), least})
	}
	slices.Reverse(rows)
	return rows
}

// find tells the row of a number: that of the greatest least one that is not above it.
func find(rows []row, n int) row {
	return rows[slices.IndexFunc(rows, func(r row) bool { return r.least <= n })]
}

// match tells the longest match of the place i up to the place b, and from where it is: each place below is asked.
func match(all []byte, i, b int) (length, from int) {
	for p := i - 1; p >= max(0, i-32768); p-- {
		n := 0
		for n < 258 && i+n < b && all[p+n] == all[i+n] {
			n++
		}
		if n > length {
			length, from = n, p
		}
	}
	return length, from
}

// fixed puts the block from a to b by the fixed codes.
func (w *told) fixed(a, b, last int) {
	w.number(last, 1)
	w.number(1, 2)
	for i := a; i < b; {
		n, p := match(w.all, i, b)
		if n < 3 {
			w.symbol(int(w.all[i]))
			i++
			continue
		}
		l, d := find(lengthRows(), n), find(distanceRows(), i-p)
		w.symbol(l.code)
		w.number(n-l.least, l.extra)
		w.code("00000", d.code)
		w.number(i-p-d.least, d.extra)
		i += n
	}
	w.symbol(256)
}

// stored puts the block from a to b as a stored one.
func (w *told) stored(a, b, last int) {
	w.number(last, 1)
	w.number(0, 2)
	for len(w.bits)%8 != 0 {
		w.number(0, 1)
	}
	w.number(b-a, 16)
	w.number(65535-(b-a), 16)
	for _, x := range w.all[a:b] {
		w.number(int(x), 8)
	}
}

// block puts the block from a to b in the kind of fewer bits.
func (w *told) block(a, b, last int) {
	s := &told{all: w.all, bits: slices.Clone(w.bits)}
	s.stored(a, b, last)
	w.fixed(a, b, last)
	if len(s.bits) < len(w.bits) {
		w.bits = s.bits
	}
	w.ends = append(w.ends, len(w.bits))
}

// whole tells the bits from the beginning on as bytes, the last one filled up by bits of 0.
func (w *told) whole() []byte {
	b := make([]byte, (len(w.bits)+7)/8)
	for i, bit := range w.bits {
		b[i/8] |= bit << (i % 8)
	}
	return b
}

// out tells how many whole bytes are there when n bytes are written.
func (w *told) out(n int) int {
	blocks := max(0, n-1) / 4096
	if blocks == 0 {
		return 0
	}
	return w.ends[blocks-1] / 8
}

// drawn tells n bytes, each one below k.
func drawn(r *rand.Rand, n, k int) []byte {
	b := make([]byte, n)
	for i := range b {
		b[i] = byte(r.Intn(k))
	}
	return b
}

// woven tells n bytes of which most stand again farther on, runs and drawn ones between.
func woven(r *rand.Rand, n int) []byte {
	b := drawn(r, 40, 256)
	for len(b) < n {
		switch r.Intn(4) {
		case 0:
			b = append(b, drawn(r, 1+r.Intn(30), 256)...)
		case 1:
			b = append(b, bytes.Repeat(drawn(r, 1+r.Intn(3), 256), 1+r.Intn(300))...)
		default:
			p := r.Intn(len(b))
			b = append(b, b[p:min(len(b), p+1+r.Intn(400))]...)
		}
	}
	return b[:n]
}

// inputs are bytes of many kinds, by name.
func inputs() map[string][]byte {
	r := rand.New(rand.NewSource(6))
	m := map[string][]byte{
		"none":           {},
		"runs":           bytes.Repeat([]byte{7}, 9000),
		"pairs":          bytes.Repeat([]byte("ab"), 5000),
		"text":           []byte(strings.Repeat("what is packed is read again, however it was cut. ", 100)),
		"drawn":          drawn(r, 9000, 256),
		"drawn, low":     drawn(r, 9000, 144),
		"of two":         drawn(r, 9000, 2),
		"of five":        drawn(r, 9000, 5),
		"drawn and runs": append(drawn(r, 5000, 256), bytes.Repeat([]byte{200}, 5000)...),
		"runs and drawn": append(bytes.Repeat([]byte{200}, 5000), drawn(r, 5000, 256)...),
	}
	for i := range 12 {
		m["short "+strconv.Itoa(i)] = drawn(r, 1+i, 1+r.Intn(256))
		m["woven "+strconv.Itoa(i)] = woven(r, 1+r.Intn(14000))
	}
	for _, n := range []int{4095, 4096, 4097, 8191, 8192, 8193, 12288} {
		m["full "+strconv.Itoa(n)] = woven(r, n)
		m["full, drawn "+strconv.Itoa(n)] = drawn(r, n, 256)
	}
	return m
}

// mustWrite writes, and it must be done.
func mustWrite(t *testing.T, w *deflate.Writer, b []byte) []byte {
	t.Helper()
	out, e := w.Write(b)
	if e != api.OK {
		t.Fatalf("Write of %d bytes: %d", len(b), e)
	}
	return out
}

// mustEnd ends, and it must be done.
func mustEnd(t *testing.T, w *deflate.Writer) []byte {
	t.Helper()
	out, e := w.End()
	if e != api.OK {
		t.Fatalf("End: %d", e)
	}
	return out
}

// mustBe tells where bytes are other ones than wanted.
func mustBe(t *testing.T, name string, got, want []byte) {
	t.Helper()
	if bytes.Equal(got, want) {
		return
	}
	i := 0
	for i < min(len(got), len(want)) && got[i] == want[i] {
		i++
	}
	t.Errorf("%s: %d bytes, want %d; other ones from %d on", name, len(got), len(want), i)
}

// P6.2: the chapter's examples.
func TestExamples(t *testing.T) {
	each := make([]byte, 256)
	for i := range each {
		each[i] = byte(i)
	}
	for _, x := range []struct{ in, want []byte }{
		{nil, []byte{3, 0}},
		{[]byte{}, []byte{3, 0}},
		{[]byte("a"), []byte{75, 4, 0}},
		{[]byte("aaaaaaaaaa"), []byte{75, 132, 3, 0}},
		{each, append([]byte{1, 0, 1, 255, 254}, each...)},
	} {
		mustBe(t, strconv.Quote(string(x.in)), deflate.Whole(x.in), x.want)
	}
}

// P6.1, P6.2: bytes of many kinds, as the chapter's words tell them.
func TestWholeAsTold(t *testing.T) {
	for name, in := range inputs() {
		mustBe(t, name, deflate.Whole(in), tell(in).whole())
	}
}

// P6.1, P6.3: piece by piece the same comes out, and each Write tells the whole bytes of the blocks that are there by it.
func TestPieces(t *testing.T) {
	r := rand.New(rand.NewSource(61))
	for name, in := range inputs() {
		want := tell(in)
		for _, most := range []int{1, 2, 100, 4096, 4097, 9000} {
			w := deflate.New()
			var got []byte
			for at := 0; at < len(in); {
				n := min(len(in)-at, r.Intn(most+1))
				got = append(got, mustWrite(t, w, in[at:at+n])...)
				at += n
				if len(got) != want.out(at) {
					t.Fatalf("%s: %d bytes out of %d, want %d", name, len(got), at, want.out(at))
				}
			}
			got = append(got, mustEnd(t, w)...)
			mustBe(t, name, got, want.whole())
		}
	}
}

// P6.1: a block that is just full is kept back; one byte more, and it goes out.
func TestKeptBack(t *testing.T) {
	in := drawn(rand.New(rand.NewSource(62)), 4097, 256)
	w := deflate.New()
	if out := mustWrite(t, w, in[:4096]); len(out) != 0 {
		t.Error("a block that is just full went out:", len(out))
	}
	if out := mustWrite(t, w, nil); len(out) != 0 {
		t.Error("by no byte more it went out:", len(out))
	}
	mustBe(t, "one byte more", mustWrite(t, w, in[4096:]), append([]byte{0, 0, 16, 255, 239}, in[:4096]...))
	last := mustEnd(t, w)
	mustBe(t, "the end", last, deflate.Whole(in)[4101:])
	full := deflate.Whole(in[:4096])
	mustBe(t, "full, the last one", full, append([]byte{1, 0, 16, 255, 239}, in[:4096]...))
}

// P6.1: of as many bits both ways it is the fixed codes; of one more, a stored block.
func TestKinds(t *testing.T) {
	high := make([]byte, 31)
	for i := range high {
		high[i] = byte(200 + i)
	}
	if b := deflate.Whole(high[:30]); b[0]&7 != 3 || len(b) != 35 {
		t.Error("of as many bits:", b)
	}
	mustBe(t, "one more", deflate.Whole(high), append([]byte{1, 31, 0, 224, 255}, high...))
}

// P6.1: the bits up to a whole byte count too, by where the block begins.
func TestKindsByPlace(t *testing.T) {
	kinds := map[byte]int{}
	for lead := range 12 {
		for n := 29; n < 35; n++ {
			in := slices.Concat(bytes.Repeat([]byte{'a'}, 4096-lead), drawn(rand.New(rand.NewSource(int64(lead))), lead, 256))
			for i := range n {
				in = append(in, byte(200+i))
			}
			want := tell(in)
			kinds[want.bits[want.ends[0]+1]]++
			mustBe(t, strconv.Itoa(lead)+" ahead, "+strconv.Itoa(n), deflate.Whole(in), want.whole())
		}
	}
	if kinds[0] == 0 || kinds[1] == 0 {
		t.Error("not both kinds:", kinds)
	}
}

// P6.1: each length, and farther than the longest.
func TestLengths(t *testing.T) {
	for n := 1; n < 530; n++ {
		for _, gap := range []int{1, 3} {
			lead := drawn(rand.New(rand.NewSource(int64(gap))), gap, 256)
			run := bytes.Repeat(lead, n/gap+2)[:n+gap]
			in := slices.Concat([]byte("."), run, []byte("!"))
			mustBe(t, strconv.Itoa(n)+" by "+strconv.Itoa(gap), deflate.Whole(in), tell(in).whole())
		}
	}
}

// between tells in with the bytes of mark, n bytes of other ones (none of them of mark), and mark again.
func between(mark string, n int) []byte {
	in := []byte(mark)
	for i := range n {
		in = append(in, []byte{0, 1, 2, 3}[i%4]+byte(4*(i/4/4%8)))
	}
	return append(in, mark...)
}

// P6.1: each kind of distance, up to 32768; none farther.
func TestDistances(t *testing.T) {
	for _, r := range distanceRows() {
		for _, far := range []int{r.least, r.least + 1, r.least + 1<<r.extra - 1, r.least + 1<<r.extra} {
			if far < 4 {
				continue
			}
			in := between("WXYZ", far-4)
			mustBe(t, "so far back: "+strconv.Itoa(far), deflate.Whole(in), tell(in).whole())
		}
	}
	near, far := deflate.Whole(between("WXYZ", 32764)), deflate.Whole(between("WXYZ", 32765))
	if len(far) < len(near)+1 {
		t.Error("32768 back is no match, or 32769 is one:", len(near), len(far))
	}
}

// P6.1: behind many blocks, too, a match is of what stands 32768 bytes back, not 32769, and of the nearest of the same.
func TestLongInputs(t *testing.T) {
	r := rand.New(rand.NewSource(63))
	far := drawn(r, 32768, 256)
	for name, in := range map[string][]byte{
		"just as far": slices.Concat(far, far[:5000]),
		"farther":     slices.Concat(far, []byte{1}, far[:5000]),
		"of few":      drawn(r, 40000, 3),
		"woven":       woven(r, 80000),
		"again":       bytes.Repeat(drawn(r, 11000, 256), 4),
	} {
		mustBe(t, name, deflate.Whole(in), tell(in).whole())
	}
}

// P6.3: it is read as the bytes, and has at most 5 bytes more a block.
func TestReadBack(t *testing.T) {
	all := inputs()
	all["a million"] = woven(rand.New(rand.NewSource(64)), 1000000)
	for name, in := range all {
		out := deflate.Whole(in)
		got, e := io.ReadAll(flate.NewReader(bytes.NewReader(out)))
		if e != nil {
			t.Error(name, e)
		}
		mustBe(t, name, got, in)
		if blocks := max(1, (len(in)+4095)/4096); len(out) > len(in)+5*blocks {
			t.Errorf("%s: %d bytes of %d", name, len(out), len(in))
		}
	}
}

// P6.1: behind End neither may be, again and again.
func TestBehindEnd(t *testing.T) {
	for _, n := range []int{0, 1, 5000} {
		w := deflate.New()
		mustWrite(t, w, make([]byte, n))
		mustEnd(t, w)
		for range 2 {
			if b, e := w.Write([]byte{1}); e != api.ErrState || len(b) != 0 {
				t.Error("Write:", b, e)
			}
			if b, e := w.Write(nil); e != api.ErrState || len(b) != 0 {
				t.Error("Write of none:", b, e)
			}
			if b, e := w.End(); e != api.ErrState || len(b) != 0 {
				t.Error("End:", b, e)
			}
		}
	}
	w := deflate.New()
	mustBe(t, "nothing was written", mustEnd(t, w), []byte{3, 0})
}

// P6.1, R5: writers that are missing, or that no call made.
func TestMissing(t *testing.T) {
	for name, w := range map[string]*deflate.Writer{"nil": nil, "unmade": {}} {
		for range 2 {
			if b, e := w.Write([]byte{1}); e != api.ErrNil || len(b) != 0 {
				t.Error(name, "Write:", b, e)
			}
			if b, e := w.End(); e != api.ErrNil || len(b) != 0 {
				t.Error(name, "End:", b, e)
			}
		}
	}
}

// R3: what is written is neither changed nor kept, its spare room neither; what is told is new.
func TestMemory(t *testing.T) {
	in := woven(rand.New(rand.NewSource(65)), 10000)
	want := tell(in).whole()
	room := append(slices.Clone(in), "spare"...)
	w := deflate.New()
	var got []byte
	for at := 0; at < len(in); at += 1000 {
		piece := slices.Clone(in[at : at+1000])
		out := mustWrite(t, w, piece)
		got = append(got, out...)
		for i := range piece {
			piece[i] = 99
		}
		out = out[:cap(out)]
		for i := range out {
			out[i] = 99
		}
	}
	mustBe(t, "kept", append(got, mustEnd(t, w)...), want)
	mustBe(t, "with spare room", deflate.Whole(room[:len(in)]), want)
	mustBe(t, "handed in", room, append(slices.Clone(in), "spare"...))
}

// R4: writers do not feel one another.
func TestTwoWriters(t *testing.T) {
	r := rand.New(rand.NewSource(66))
	one, two := woven(r, 9000), woven(r, 9000)
	v, w := deflate.New(), deflate.New()
	var first, second []byte
	for at := 0; at < 9000; at += 90 {
		first = append(first, mustWrite(t, v, one[at:at+90])...)
		second = append(second, mustWrite(t, w, two[at:at+90])...)
	}
	mustBe(t, "the first", append(first, mustEnd(t, v)...), deflate.Whole(one))
	mustBe(t, "the second", append(second, mustEnd(t, w)...), deflate.Whole(two))
}
