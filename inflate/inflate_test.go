package inflate_test

import (
	"bytes"
	"compress/flate"
	"math"
	"math/rand"
	"slices"
	"strconv"
	"testing"

	"lightwell/api"
	"lightwell/deflate"
	"lightwell/inflate"
)

// mustTell inflates, and it must say that, by so many bytes.
func mustTell(t *testing.T, name string, b []byte, most int, want []byte, used int) {
	t.Helper()
	got, n, e := inflate.Inflate(b, most)
	if !bytes.Equal(got, want) || n != used || e != api.OK {
		t.Errorf("%s: %d bytes, %d asked for, %d; want %d, %d", name, len(got), n, e, len(want), used)
	}
}

// mustFail inflates, and it must be that error.
func mustFail(t *testing.T, name string, b []byte, most int, want api.Errno) {
	t.Helper()
	if got, n, e := inflate.Inflate(b, most); len(got) != 0 || n != 0 || e != want {
		t.Errorf("%s: %d bytes, %d asked for, %d; want error %d", name, len(got), n, e, want)
	}
}

// mustAgree inflates, and it must be as the chapter's words tell it.
func mustAgree(t *testing.T, name string, b []byte, most int) {
	t.Helper()
	want, used, e := tell(b, most)
	if e != api.OK {
		mustFail(t, name, b, most, e)
		return
	}
	mustTell(t, name, b, most, want, used)
}

// mustBegin inflates bits that are wanting just behind these: ErrShort; and with each of the ends behind them, which must be the error itself.
func mustBegin(t *testing.T, name string, m *made, want api.Errno) {
	t.Helper()
	s := m.bits.String()
	whole := len(s) / 8 * 8
	if whole == len(s) {
		whole -= 8
	}
	cut := &made{}
	cut.bits.WriteString(s[:whole])
	mustFail(t, name+", cut ahead of its last bits", cut.bytes(), 1<<20, api.ErrShort)
	for _, fill := range []int{0, 255} {
		ended := &made{}
		ended.bits.WriteString(s)
		for ended.bits.Len()%8 != 0 {
			ended.number(fill, 1)
		}
		mustFail(t, name, ended.bytes(), 1<<20, want)
		mustFail(t, name+", more behind it", append(ended.bytes(), byte(fill), byte(fill), byte(fill)), 1<<20, want)
	}
}

// The chapter's examples.
func TestExamples(t *testing.T) {
	mustTell(t, "none", []byte{3, 0}, 9, nil, 2)
	mustTell(t, "a", []byte{75, 4, 0}, 9, []byte("a"), 3)
	mustTell(t, "ten a", []byte{75, 132, 3, 0}, 10, []byte("aaaaaaaaaa"), 4)
	mustFail(t, "ten a, most 9", []byte{75, 132, 3, 0}, 9, api.ErrLong)
	mustTell(t, "stored", []byte{1, 1, 0, 254, 255, 7}, 9, []byte{7}, 6)
	mustFail(t, "kind 3", []byte{7}, 9, api.ErrBits)
	mustFail(t, "nothing", nil, 9, api.ErrShort)
	mustFail(t, "nothing, empty", []byte{}, 9, api.ErrShort)
	mustFail(t, "cut", []byte{75}, 9, api.ErrShort)
	mustFail(t, "not turned", []byte{1, 1, 0, 255, 255}, 9, api.ErrBits)
}

// P7.2: kind 3, as the last block or not, also behind others.
func TestKindThree(t *testing.T) {
	for last := range 2 {
		m := (&made{}).head(last, 3)
		mustFail(t, "alone", m.bytes(), 9, api.ErrBits)
		m = (&made{}).head(0, 1).fixed('a', 256).head(last, 3)
		mustFail(t, "behind one", m.bytes(), 9, api.ErrBits)
	}
}

// P7.2: stored blocks from each place within a byte on, of no bytes, one, many, and the most.
func TestStored(t *testing.T) {
	r := rand.New(rand.NewSource(71))
	places := map[int]bool{}
	for high := range 8 {
		for _, n := range []int{0, 1, 2, 255, 256, 257, 65535} {
			b := make([]byte, n)
			r.Read(b)
			m := (&made{}).head(0, 1).fixed(slices.Repeat([]int{200}, high)...).fixed(256)
			places[m.bits.Len()%8] = true
			m.stored(0, b).stored(1, b)
			want := slices.Concat(bytes.Repeat([]byte{200}, high), b, b)
			mustTell(t, strconv.Itoa(high)+" ahead, "+strconv.Itoa(n), m.bytes(), len(want), want, len(m.bytes()))
		}
	}
	if len(places) != 8 {
		t.Error("not from each place:", places)
	}
}

// P7.2: what must be turned is, bit by bit.
func TestStoredTurned(t *testing.T) {
	for n := range 16 {
		b := (&made{}).stored(1, make([]byte, 700)).bytes()
		b[3+n/8] ^= 1 << (n % 8)
		mustFail(t, "bit "+strconv.Itoa(n), b, 1000, api.ErrBits)
		mustFail(t, "ahead of what may be", b, 1, api.ErrBits)
		mustFail(t, "and nothing behind it", b[:5], 1000, api.ErrBits)
		mustFail(t, "and not all of it", b[:4], 1000, api.ErrShort)
	}
}

// P7.3: each byte by the fixed codes, and by codes of eight bits each, with one of nine.
func TestEachByte(t *testing.T) {
	all := make([]byte, 256)
	m := (&made{}).head(0, 1)
	for i := range all {
		all[i] = byte(i)
		m.fixed(i)
	}
	m.fixed(256)
	own := append(times(8, 255), 9, 9)
	m.own(1, own, []int{0})
	for i := range all {
		m.code(own, i)
	}
	m.code(own, 256)
	mustTell(t, "each twice", m.bytes(), 512, slices.Concat(all, all), len(m.bytes()))
}

// P7.3: each length, with the least and the greatest of its extra bits; 284 with all of them is 258, too.
func TestLengths(t *testing.T) {
	for x := 257; x <= 285; x++ {
		r := lengthRow(x)
		for _, more := range []int{0, 1<<r.extra - 1, 1 << r.extra / 2} {
			if more >= 1<<r.extra {
				continue
			}
			m := (&made{}).head(1, 1).fixed('x', 'y', x).number(more, r.extra).far(1).fixed('!', 256)
			want := append(bytes.Repeat([]byte("xy"), 131)[:2+r.least+more], '!')
			mustTell(t, "symbol "+strconv.Itoa(x), m.bytes(), 1000, want, len(m.bytes()))
		}
	}
}

// P7.3: each distance, with the least and the greatest of its extra bits; one more than there are bytes is too far.
func TestDistances(t *testing.T) {
	ahead := make([]byte, 32768)
	rand.New(rand.NewSource(72)).Read(ahead)
	for x := range 30 {
		r := distanceRow(x)
		for _, more := range []int{0, 1<<r.extra - 1} {
			back := r.least + more
			m := (&made{}).stored(0, ahead[:back]).head(1, 1).fixed(258).far(x).number(more, r.extra).fixed(256)
			want := slices.Clone(ahead[:back])
			for range 4 {
				want = append(want, want[len(want)-back])
			}
			mustTell(t, "so far back: "+strconv.Itoa(back), m.bytes(), 1<<16, want, len(m.bytes()))
			m = (&made{}).stored(0, ahead[:back-1]).head(1, 1).fixed(258).far(x).number(more, r.extra).fixed(256)
			mustFail(t, "too far back: "+strconv.Itoa(back), m.bytes(), 1<<16, api.ErrBits)
		}
	}
}

// P7.3: matches that reach into what they make, at each distance that is below their length.
func TestMatchInItself(t *testing.T) {
	ahead := []byte("abcdefghijklmnopqrstuvwxyz0123456789")
	for back := 1; back <= 32; back++ {
		x := 0
		for x+1 < 30 && distanceRow(x+1).least <= back {
			x++
		}
		r := distanceRow(x)
		m := (&made{}).stored(0, ahead).head(1, 1).fixed(285).far(x).number(back-r.least, r.extra).fixed(256)
		want := slices.Concat(ahead, bytes.Repeat(ahead[len(ahead)-back:], 258)[:258])
		mustTell(t, "so far back: "+strconv.Itoa(back), m.bytes(), 1000, want, len(m.bytes()))
	}
}

// P7.3: matches reach the bytes of all blocks ahead, but no farther, and nothing at all at the beginning.
func TestMatchAcrossBlocks(t *testing.T) {
	own := append(times(8, 254), 0, 8, 8)
	m := (&made{}).stored(0, []byte("one")).head(0, 1).fixed('2', 256)
	m.own(0, own, []int{1}).code(own, 'q').code(own, 256)
	m.head(1, 1).fixed(257).far(4).number(0, 1).fixed(256)
	mustTell(t, "over three kinds", m.bytes(), 99, []byte("one2qone"), len(m.bytes()))
	m = (&made{}).stored(0, []byte("one")).head(1, 1).fixed(257).far(2).fixed(256)
	mustTell(t, "from the first one on", m.bytes(), 99, []byte("oneone"), len(m.bytes()))
	m = (&made{}).stored(0, []byte("one")).head(1, 1).fixed(257).far(3).fixed(256)
	mustFail(t, "one farther", m.bytes(), 99, api.ErrBits)
	m = (&made{}).head(1, 1).fixed(257).far(0).fixed(256)
	mustFail(t, "at the beginning", m.bytes(), 99, api.ErrBits)
}

// P7.3: symbols that there are not: of lengths, of distances. They are told when they are got, ahead of any bits behind them.
func TestOtherSymbols(t *testing.T) {
	for _, x := range []int{286, 287} {
		mustBegin(t, "symbol "+strconv.Itoa(x), (&made{}).head(1, 1).fixed(x), api.ErrBits)
	}
	for _, x := range []int{30, 31} {
		mustBegin(t, "distance "+strconv.Itoa(x), (&made{}).head(1, 1).fixed('a', 257).far(x), api.ErrBits)
	}
}

// P7.1, P7.3: a most that is just enough, one less, 0, and below 0, of bytes and of matches.
func TestMost(t *testing.T) {
	bytewise := (&made{}).head(1, 1).fixed('a', 'b', 'c', 256).bytes()
	match := (&made{}).head(1, 1).fixed('a', 285).far(0).fixed(256).bytes()
	stored := (&made{}).stored(0, []byte("some")).stored(1, []byte("more")).bytes()
	for name, x := range map[string]struct {
		b    []byte
		want string
	}{"bytes": {bytewise, "abc"}, "match": {match, string(bytes.Repeat([]byte("a"), 259))}, "stored": {stored, "somemore"}} {
		for _, more := range []int{0, 1, 1 << 40, math.MaxInt - len(x.want)} {
			mustTell(t, name, x.b, len(x.want)+more, []byte(x.want), len(x.b))
		}
		for most := range len(x.want) {
			mustFail(t, name, x.b, most, api.ErrLong)
		}
		for _, most := range []int{-1, -2, -len(x.want), math.MinInt, math.MinInt + 1} {
			mustFail(t, name, x.b, most, api.ErrLong)
		}
	}
	for _, most := range []int{0, -1, math.MinInt, math.MaxInt} {
		mustTell(t, "none", []byte{3, 0}, most, nil, 2)
		mustTell(t, "none, stored", []byte{1, 0, 0, 255, 255}, most, nil, 5)
	}
}

// P7.1: where ErrLong is told: at the byte; at the match, behind its distance; of a stored block ahead of its bytes.
func TestWhereLong(t *testing.T) {
	mustFail(t, "at the byte", (&made{}).head(0, 1).fixed('a', 'b').bytes(), 1, api.ErrLong)
	mustFail(t, "a bit short of the byte", (&made{}).head(0, 1).fixed('a').number(0, 5).bytes(), 1, api.ErrShort)
	mustFail(t, "ahead of the distance", (&made{}).head(0, 1).fixed(200, 200, 257).bytes(), 4, api.ErrShort)
	mustFail(t, "no distance", (&made{}).head(0, 1).fixed('a', 257).far(30).bytes(), 3, api.ErrBits)
	mustFail(t, "too far back", (&made{}).head(0, 1).fixed('a', 257).far(1).bytes(), 3, api.ErrBits)
	mustFail(t, "extra bits are wanting", (&made{}).head(0, 1).fixed('a', 'a', 257).far(29).bytes(), 3, api.ErrShort)
	mustFail(t, "at the match", (&made{}).head(0, 1).fixed('a', 257).far(0).bytes(), 3, api.ErrLong)
	b := (&made{}).stored(0, []byte("abcd")).bytes()
	mustFail(t, "ahead of all bytes", b[:5], 3, api.ErrLong)
	mustFail(t, "within the bytes", b[:8], 4, api.ErrShort)
	mustFail(t, "ahead of the turned length", b[:4], 3, api.ErrShort)
}

// P7.1: streams that are cut at any byte, of all kinds.
func TestCut(t *testing.T) {
	r := rand.New(rand.NewSource(73))
	for range 40 {
		b, want := drawnStream(r, 1+r.Intn(4))
		mustTell(t, "whole", b, len(want), want, len(b))
		for n := range b {
			mustFail(t, "cut at "+strconv.Itoa(n), b[:n:n], 1<<20, api.ErrShort)
			mustFail(t, "cut at "+strconv.Itoa(n)+", with room", b[:n], len(want), api.ErrShort)
		}
	}
}

// P7.1, P7.5: what stands behind the last block changes nothing, be it in its last byte or behind it.
func TestBehind(t *testing.T) {
	r := rand.New(rand.NewSource(74))
	for range 200 {
		b, want := drawnStream(r, 1+r.Intn(4))
		more := make([]byte, 1+r.Intn(9))
		r.Read(more)
		mustTell(t, "bytes behind", append(slices.Clone(b), more...), len(want), want, len(b))
	}
	for fill := range 64 {
		mustTell(t, "bits behind", []byte{3, byte(fill << 2)}, 0, nil, 2)
		mustTell(t, "bits behind", []byte{75, 4, byte(fill << 2)}, 1, []byte("a"), 3)
	}
}

// P7.1: as many blocks as there are, of no bytes each.
func TestManyBlocks(t *testing.T) {
	m := &made{}
	for range 20000 {
		m.head(0, 1).fixed(256)
	}
	m.head(1, 1).fixed('z', 256)
	mustTell(t, "many", m.bytes(), 1, []byte("z"), len(m.bytes()))
}

// P7.5: what deflate tells is told back, whole and piece by piece.
func TestDeflateBack(t *testing.T) {
	r := rand.New(rand.NewSource(75))
	for i := range 60 {
		in := drawnBytes(r, r.Intn(300*(i+1)), 1+r.Intn(256))
		out := deflate.Whole(in)
		mustTell(t, "whole", out, len(in), in, len(out))
		w := deflate.New()
		var pieces []byte
		for at := 0; at < len(in); {
			n := min(len(in)-at, 1+r.Intn(5000))
			b, _ := w.Write(in[at : at+n])
			pieces = append(pieces, b...)
			at += n
		}
		b, _ := w.End()
		pieces = append(pieces, b...)
		mustTell(t, "pieces", pieces, len(in), in, len(pieces))
		mustTell(t, "more behind", append(pieces, 1, 2, 3), len(in)+1, in, len(pieces))
		if len(in) > 0 {
			mustFail(t, "one less", pieces, len(in)-1, api.ErrLong)
		}
	}
}

// P7.1 to P7.4: what another one tells, with codes of blocks' own, long ones and ones of many blocks.
func TestOtherWriters(t *testing.T) {
	r := rand.New(rand.NewSource(76))
	for level := flate.HuffmanOnly; level <= flate.BestCompression; level++ {
		for _, n := range []int{0, 1, 1000, 70000, 400000} {
			in := drawnBytes(r, n, 1+r.Intn(256))
			var out bytes.Buffer
			w, _ := flate.NewWriter(&out, level)
			w.Write(in[:n/2])
			w.Flush()
			w.Write(in[n/2:])
			w.Close()
			mustTell(t, "level "+strconv.Itoa(level), out.Bytes(), n, in, out.Len())
		}
	}
}

// R3: what is handed in is not changed, nor is its spare room got; what is handed out is new.
func TestMemory(t *testing.T) {
	b := (&made{}).stored(1, []byte("some bytes")).bytes()
	room := append(slices.Clone(b), 1, 2, 3)
	kept := slices.Clone(room)
	one, _, _ := inflate.Inflate(room[:len(b)], 99)
	two, _, _ := inflate.Inflate(room[:len(b)], 99)
	for i := range one[:cap(one)] {
		one[:cap(one)][i] = 9
	}
	if !bytes.Equal(room, kept) || string(two) != "some bytes" {
		t.Error("shared:", room, two)
	}
	for i := range room {
		room[i] = 0
	}
	if string(two) != "some bytes" {
		t.Error("shared with what was handed in:", two)
	}
	mustFail(t, "in the spare room", kept[:len(b)-1], 99, api.ErrShort)
}
