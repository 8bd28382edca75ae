package inflate_test

import (
	"math/rand"
	"slices"
	"strconv"
	"testing"

	"lightwell/api"
)

// drawnBytes tells n bytes below k, some of which stand again.
func drawnBytes(r *rand.Rand, n, k int) []byte {
	var b []byte
	for len(b) < n {
		if len(b) > 0 && r.Intn(3) == 0 {
			p := r.Intn(len(b))
			b = append(b, b[p:min(len(b), p+r.Intn(300))]...)
			continue
		}
		b = append(b, byte(r.Intn(k)))
	}
	return b[:n]
}

// drawnSome tells some of the numbers from a up to b, rising, each with a chance of 1 in k.
func drawnSome(r *rand.Rand, a, b, k int) []int {
	var some []int
	for i := a; i < b; i++ {
		if r.Intn(k) == 0 {
			some = append(some, i)
		}
	}
	return some
}

// drawnStream tells so many blocks of all kinds, and what they say.
func drawnStream(r *rand.Rand, blocks int) ([]byte, []byte) {
	m := &made{}
	var out []byte
	for i := range blocks {
		last := 0
		if i == blocks-1 {
			last = 1
		}
		switch r.Intn(3) {
		case 0:
			b := drawnBytes(r, r.Intn(40), 256)
			m.stored(last, b)
			out = append(out, b...)
		case 1:
			m.head(last, 1)
			out = drawnSymbols(r, m, out, fixedLengths(), times(5, 32))
		case 2:
			lengths := drawnLengths(r, 257+r.Intn(30), append(drawnSome(r, 0, 256, 1+r.Intn(40)), 256))
			if x := r.Intn(20); 257+x < len(lengths) { // symbols of lengths, too
				lengths = drawnLengths(r, len(lengths), append(drawnSome(r, 0, 256, 20), slices.Concat([]int{256, 257}, drawnSome(r, 258, len(lengths), 2))...))
			}
			n := 1 + r.Intn(30)
			distances := drawnLengths(r, n, drawnSome(r, 0, n, 2))
			m.own(last, lengths, distances)
			out = drawnSymbols(r, m, out, lengths, distances)
		}
	}
	return m.bytes(), out
}

// drawnSymbols puts drawn symbols by codes of these lengths, and the end; and tells the bytes with those they say behind them.
func drawnSymbols(r *rand.Rand, m *made, out []byte, lengths, distances []int) []byte {
	var may, far []int
	for x, l := range lengths {
		if l > 0 && x != 256 && x < 286 {
			may = append(may, x)
		}
	}
	for x, l := range distances {
		if l > 0 && x < 30 {
			far = append(far, x)
		}
	}
	for range r.Intn(30) {
		if len(may) == 0 {
			break
		}
		x := may[r.Intn(len(may))]
		if x < 256 {
			m.code(lengths, x)
			out = append(out, byte(x))
		} else if len(far) > 0 {
			out = drawnMatch(r, m, out, x, far[r.Intn(len(far))], lengths, distances)
		}
	}
	m.code(lengths, 256)
	return out
}

// drawnMatch puts a match by its symbols, if there are bytes for it, and tells the bytes with it.
func drawnMatch(r *rand.Rand, m *made, out []byte, x, y int, lengths, distances []int) []byte {
	a, b := lengthRow(x), distanceRow(y)
	most := min(1<<b.extra, len(out)-b.least+1)
	if most <= 0 {
		return out
	}
	n, back := r.Intn(1<<a.extra), r.Intn(most)
	m.code(lengths, x).number(n, a.extra).code(distances, y).number(back, b.extra)
	for range a.least + n {
		out = append(out, out[len(out)-b.least-back])
	}
	return out
}

// P7.1 to P7.4: drawn blocks of all kinds, one behind the other.
func TestDrawnStreams(t *testing.T) {
	r := rand.New(rand.NewSource(77))
	for range 1000 {
		b, want := drawnStream(r, 1+r.Intn(6))
		mustTell(t, "drawn", b, len(want), want, len(b))
		if len(want) > 0 {
			mustFail(t, "one less", b, len(want)-1, api.ErrLong)
		}
	}
}

// P7.1 to P7.4: drawn blocks with bits that are turned, cut, with bytes behind them: whatever comes of it, it is as told.
func TestSpoilt(t *testing.T) {
	r := rand.New(rand.NewSource(78))
	seen := map[api.Errno]int{}
	for range 6000 {
		b, want := drawnStream(r, 1+r.Intn(3))
		for range 1 + r.Intn(3) {
			i := r.Intn(8 * min(len(b), 1+r.Intn(100)))
			b[i/8] ^= 1 << (i % 8)
		}
		if r.Intn(4) == 0 {
			b = b[:r.Intn(len(b))]
		}
		most := []int{1 << 20, len(want), r.Intn(len(want) + 1)}[r.Intn(3)]
		_, _, e := tell(b, most)
		seen[e]++
		mustAgree(t, "spoilt", b, most)
	}
	for _, e := range []api.Errno{api.OK, api.ErrShort, api.ErrLong, api.ErrBits} {
		if seen[e] < 100 {
			t.Error("hardly any of", e, seen)
		}
	}
}

// P7.1 to P7.4: bytes that are drawn one by one.
func TestDrawnBytes(t *testing.T) {
	r := rand.New(rand.NewSource(79))
	for range 20000 {
		b := make([]byte, r.Intn(120))
		r.Read(b)
		if len(b) > 0 && r.Intn(2) == 0 {
			b[0] = b[0]&^7 | 5 // codes of its own
		}
		mustAgree(t, "drawn", b, r.Intn(300))
	}
}

// P7.4: n and m at their greatest, and above; of these it is told behind the lengths of lengths, not ahead.
func TestHowMany(t *testing.T) {
	for n := 257; n <= 288; n++ {
		for _, k := range []int{1, 2, 29, 30, 31, 32} {
			lengths := append(times(8, 255), 9, 9)
			m := &made{}
			name := strconv.Itoa(n) + " and " + strconv.Itoa(k)
			if n > 286 || k > 30 {
				mustBegin(t, name, m.ownHead(1, n, k, plainOwn()), api.ErrBits)
				continue
			}
			lengths = append(lengths, times(0, n-257)...)
			m.own(1, lengths, append(times(0, k-1), 1)).code(lengths, 'a').code(lengths, 256)
			mustTell(t, name, m.bytes(), 1, []byte("a"), len(m.bytes()))
		}
	}
}

// P7.4: the lengths of lengths may not be: too few, too many, none, one alone that is not 1.
func TestLengthsOfLengths(t *testing.T) {
	for name, own := range map[string][]int{
		"none":            times(0, 19),
		"one of two":      append([]int{2}, times(0, 18)...),
		"one of seven":    append(times(0, 18), 7),
		"two of two":      append([]int{2, 2}, times(0, 17)...),
		"three of one":    append([]int{1, 1, 1}, times(0, 16)...),
		"one too few":     append(times(4, 12), times(5, 7)...),
		"one too many":    append(times(4, 14), times(5, 5)...),
		"nearly full":     {1, 2, 3, 4, 5, 6, 7, 0, 0, 0, 0, 0, 0, 0, 0, 0, 0, 0, 0},
		"more than full":  {1, 2, 3, 4, 5, 6, 7, 7, 7, 0, 0, 0, 0, 0, 0, 0, 0, 0, 0},
		"two at one, one": {1, 1, 0, 0, 0, 0, 0, 0, 0, 0, 0, 0, 0, 0, 0, 0, 0, 0, 7},
	} {
		mustBegin(t, name, (&made{}).ownHead(1, 257, 1, own), api.ErrBits)
	}
}

// P7.4: one length's code alone may be: each bit of 0 is it, one of 1 none, at once.
func TestLengthAlone(t *testing.T) {
	for x := range 19 {
		own := times(0, 19)
		own[x] = 1
		m := (&made{}).ownHead(1, 257, 1, own)
		mustFail(t, "nothing behind it", m.bytes()[:m.bits.Len()/8], 9, api.ErrShort)
		mustBegin(t, "one of 1", m.number(1, 1), api.ErrBits)
	}
	own := times(0, 19)
	own[18] = 1
	m := (&made{}).ownHead(1, 257, 1, own).number(0, 1).number(127, 7).number(0, 1).number(108, 7)
	mustFail(t, "all of them 0, one short", m.bytes()[:m.bits.Len()/8], 9, api.ErrShort)
	m.number(0, 1).number(0, 7)
	mustFail(t, "none of 256", m.bytes(), 9, api.ErrBits)
}

// P7.4: only so many of the lengths' lengths as there are said to be are got; the others are 0.
func TestFewLengths(t *testing.T) {
	order := []int{16, 17, 18, 0, 8, 7, 9, 6, 10, 5, 11, 4, 12, 3, 13, 2, 14, 1, 15}
	for k := 18; k <= 19; k++ {
		m := (&made{}).head(1, 2).number(0, 5).number(0, 5).number(k-4, 4)
		own := times(0, 19)
		own[0], own[18], own[1] = 2, 2, 1
		for _, x := range order[:k] {
			m.number(own[x], 3)
		}
		m.code(own, 1).code(own, 18).number(127, 7).code(own, 18).number(106, 7).code(own, 1).code(own, 0) // 1, 255 times 0, 1; 0
		lengths := append(append([]int{1}, times(0, 255)...), 1)
		m.code(lengths, 0).code(lengths, 0).code(lengths, 256)
		mustTell(t, strconv.Itoa(k), m.bytes(), 2, []byte{0, 0}, len(m.bytes()))
	}
	for k := 4; k <= 17; k++ {
		own := times(0, 19)
		own[18], own[order[k-1]], own[0] = 2, 2, 1
		m := (&made{}).head(1, 2).number(0, 5).number(0, 5).number(k-4, 4)
		for _, x := range order[:k] {
			m.number(own[x], 3)
		}
		m.number(0, 300)
		mustAgree(t, strconv.Itoa(k), m.bytes(), 9)
	}
}

// lengthsBy puts the beginning of a block whose lengths are told by these symbols, each with a number behind it.
func lengthsBy(n, k int, symbols ...[2]int) *made {
	m := (&made{}).ownHead(1, n, k, plainOwn())
	for _, x := range symbols {
		m.code(plainOwn(), x[0])
		switch x[0] {
		case 16:
			m.number(x[1]-3, 2)
		case 17:
			m.number(x[1]-3, 3)
		case 18:
			m.number(x[1]-11, 7)
		}
	}
	return m
}

// P7.4: the last length again, zeros and many zeros, at their least and greatest, over the border between symbols and distances.
func TestRuns(t *testing.T) {
	for _, x := range []struct {
		name    string
		n, k    int
		symbols [][2]int
	}{
		{"three again", 257, 1, [][2]int{{2, 0}, {16, 3}, {18, 138}, {18, 114}, {0, 0}, {0, 0}}},
		{"six again", 257, 1, [][2]int{{3, 0}, {16, 6}, {18, 138}, {18, 111}, {3, 0}, {0, 0}}},
		{"over the border", 257, 4, [][2]int{{2, 0}, {2, 0}, {2, 0}, {18, 138}, {18, 115}, {2, 0}, {16, 4}}},
		{"zeros again", 257, 6, [][2]int{{2, 0}, {2, 0}, {2, 0}, {18, 138}, {18, 115}, {2, 0}, {0, 0}, {16, 5}}},
		{"zeros again, from a run", 260, 6, [][2]int{{2, 0}, {2, 0}, {2, 0}, {18, 138}, {18, 115}, {2, 0}, {17, 3}, {16, 6}}},
		{"ten zeros over the border", 260, 7, [][2]int{{2, 0}, {2, 0}, {2, 0}, {18, 138}, {18, 115}, {2, 0}, {17, 10}}},
		{"138 zeros", 257, 1, [][2]int{{1, 0}, {18, 138}, {18, 117}, {1, 0}, {0, 0}}},
	} {
		m := lengthsBy(x.n, x.k, x.symbols...)
		m.number(0, 200).number(65535, 16)
		mustAgree(t, x.name, m.bytes(), 1000)
	}
	lengths := append(append(times(2, 3), times(0, 253)...), 2)
	m := lengthsBy(257, 4, [2]int{2}, [2]int{2}, [2]int{2}, [2]int{18, 138}, [2]int{18, 115}, [2]int{2}, [2]int{16, 4})
	m.code(lengths, 1).code(lengths, 2).code(lengths, 256)
	mustTell(t, "over the border", m.bytes(), 2, []byte{1, 2}, len(m.bytes()))
}

// P7.4: none to be told again; more than there may be, by one; told behind the bits that say how many.
func TestWrongRuns(t *testing.T) {
	mustBegin(t, "none ahead", lengthsBy(257, 1, [2]int{16, 3}), api.ErrBits)
	mustBegin(t, "none ahead, six", lengthsBy(257, 1, [2]int{16, 6}), api.ErrBits)
	full := [][2]int{{8, 0}, {18, 138}, {18, 117}} // 256 lengths
	mustBegin(t, "three again, one too many", lengthsBy(257, 1, append(slices.Clone(full), [2]int{16, 3})...), api.ErrBits)
	mustBegin(t, "three zeros, one too many", lengthsBy(257, 1, append(slices.Clone(full), [2]int{17, 3})...), api.ErrBits)
	mustBegin(t, "eleven zeros", lengthsBy(257, 10, append(slices.Clone(full), [2]int{18, 12})...), api.ErrBits)
	mustBegin(t, "many zeros", lengthsBy(257, 1, [2]int{8}, [2]int{18, 138}, [2]int{18, 138}), api.ErrBits)
}

// mustRefuse tells codes of these lengths, which may not be: told behind the last of them, ahead of what follows.
func mustRefuse(t *testing.T, name string, lengths, distances []int) {
	t.Helper()
	mustBegin(t, name, (&made{}).own(1, lengths, distances), api.ErrBits)
}

// P7.4: codes of symbols and of distances that may not be.
func TestWrongCodes(t *testing.T) {
	good, end := append(times(8, 255), 9, 9), append(times(0, 256), 1)
	mustRefuse(t, "none of the end", append(times(8, 256), 0), []int{1})
	mustRefuse(t, "none at all", times(0, 257), []int{0})
	mustRefuse(t, "one alone, not the end", append(append([]int{1}, times(0, 256)...), 0), []int{1})
	mustRefuse(t, "the end alone, of two", append(times(0, 256), 2), []int{1})
	mustRefuse(t, "the end alone, of 15", append(times(0, 256), 15), []int{1})
	mustRefuse(t, "too few", append(times(8, 255), 9, 8, 0)[:257], []int{1})
	mustRefuse(t, "one too few", append(times(8, 255), 0, 9), []int{1})
	mustRefuse(t, "too many", append(times(8, 256), 8), []int{1})
	mustRefuse(t, "one of 15 too many", append(good, 15), []int{1})
	mustRefuse(t, "distance alone, of two", end, []int{2})
	mustRefuse(t, "distance alone, of 15", good, []int{0, 15})
	mustRefuse(t, "two distances of two", end, []int{2, 2})
	mustRefuse(t, "three distances of one", good, []int{1, 1, 1})
	mustRefuse(t, "nearly full distances", good, []int{1, 2, 3, 4, 5, 6, 7, 8, 9, 10, 11, 12, 13, 14, 15})
	mustRefuse(t, "more than full distances", good, []int{1, 2, 3, 4, 5, 6, 7, 8, 9, 10, 11, 12, 13, 14, 15, 15, 15})
}

// P7.2, P7.4: codes of all lengths up to 15, of symbols and distances both.
func TestDeepCodes(t *testing.T) {
	lengths := times(0, 286)
	copy(lengths, []int{1, 2, 3, 4, 5, 6, 7, 8, 9, 10, 11, 12, 13})
	lengths[255], lengths[256], lengths[257], lengths[285] = 15, 15, 15, 15
	distances := []int{15, 15, 14, 13, 12, 11, 10, 9, 8, 7, 6, 5, 4, 3, 2, 1}
	m := (&made{}).own(1, lengths, distances)
	var want []byte
	for x := range 13 {
		m.code(lengths, x)
		want = append(want, byte(x))
	}
	m.code(lengths, 255).code(lengths, 257).code(distances, 1)
	want = append(append(want, 255), want[12], 255, want[12])
	m.code(lengths, 285).code(distances, 0).code(lengths, 256)
	want = append(want, slices.Repeat([]byte{want[16]}, 258)...)
	mustTell(t, "deep", m.bytes(), len(want), want, len(m.bytes()))
}

// P7.4: one symbol alone, the end: a bit of 0 is it, one of 1 none, at once.
func TestEndAlone(t *testing.T) {
	end := append(times(0, 256), 1)
	for _, distances := range [][]int{{0}, {1}, {0, 1}, {1, 1}, times(0, 30)} {
		m := (&made{}).own(1, end, distances)
		head := m.bits.String()
		m.number(0, 1)
		mustTell(t, "the end", m.bytes(), 0, nil, len(m.bytes()))
		m = &made{}
		m.bits.WriteString(head)
		mustBegin(t, "none", m.number(1, 1), api.ErrBits)
	}
}

// P7.4: one distance alone: a bit of 0 is it, one of 1 none, at once; no distance at all: none is, after 15 bits.
func TestFewDistances(t *testing.T) {
	lengths := append(times(0, 254), 2, 2, 2, 2)
	begun := func(distances ...int) *made {
		return (&made{}).own(1, lengths, distances).code(lengths, 254).code(lengths, 257)
	}
	for _, distances := range [][]int{{1}, {1, 0, 0}} {
		m := begun(distances...).number(0, 1).code(lengths, 256)
		mustTell(t, "alone", m.bytes(), 4, []byte{254, 254, 254, 254}, len(m.bytes()))
		mustBegin(t, "not it", begun(distances...).number(1, 1), api.ErrBits)
	}
	m := begun(0, 1).number(0, 1).code(lengths, 256)
	mustFail(t, "alone, too far back", m.bytes(), 4, api.ErrBits)
	m = (&made{}).own(1, lengths, []int{0, 0}).code(lengths, 254).code(lengths, 255).code(lengths, 256)
	mustTell(t, "none is asked", m.bytes(), 2, []byte{254, 255}, len(m.bytes()))
	for _, bits := range []int{0, 32767, 1234} {
		m := begun(0, 0, 0)
		mustBegin(t, "none, of 15 bits", m.number(bits, 15), api.ErrBits)
	}
}

// P7.3, P7.4: what a fault tells hangs on the first one alone: whatever stands behind it.
func TestFirstFault(t *testing.T) {
	r := rand.New(rand.NewSource(80))
	for range 300 {
		b, want := drawnStream(r, 1)
		m := (&made{}).stored(0, want).head(0, 3)
		behind := append(m.bytes(), b...)
		mustFail(t, "kind 3", behind, len(want), api.ErrBits)
		if len(want) > 0 {
			mustFail(t, "too many ahead of it", behind, len(want)-1, api.ErrLong)
		}
	}
}
