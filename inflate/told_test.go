package inflate_test

import (
	"math/rand"
	"strconv"
	"strings"

	"lightwell/api"
)

// told is what the chapter's words make of bits, one by one.
type told struct {
	bits string // of 0 and 1
	at   int
	out  []byte
	most int
}

// wrong is how telling ends at an error.
type wrong api.Errno

// tell tells what Inflate of b and most must answer.
func tell(b []byte, most int) (out []byte, used int, e api.Errno) {
	w := &told{bits: split(b), most: max(most, 0)}
	defer func() {
		if x, ok := recover().(wrong); ok {
			out, used, e = nil, 0, api.Errno(x)
		}
	}()
	for last := 0; last == 0; {
		last = w.number(1)
		w.block()
	}
	return w.out, (w.at + 7) / 8, api.OK
}

// split tells the bits of bytes, each one's lowest first.
func split(b []byte) string {
	var s strings.Builder
	for _, x := range b {
		for i := range 8 {
			s.WriteByte('0' + x>>i&1)
		}
	}
	return s.String()
}

// must tells an error, unless that is so.
func must(ok bool, e api.Errno) {
	if !ok {
		panic(wrong(e))
	}
}

// number gets that of the next k bits.
func (w *told) number(k int) int {
	must(len(w.bits)-w.at >= k, api.ErrShort)
	n := 0
	for i := range k {
		n += int(w.bits[w.at+i]-'0') << i
	}
	w.at += k
	return n
}

// put puts a byte, if there may be so many.
func (w *told) put(x byte) {
	must(len(w.out) < w.most, api.ErrLong)
	w.out = append(w.out, x)
}

// block gets a block behind its first bit.
func (w *told) block() {
	switch w.number(2) {
	case 0:
		for w.at%8 != 0 {
			w.at++
		}
		n := w.number(16)
		must(w.number(16) == 65535-n, api.ErrBits)
		must(len(w.out)+n <= w.most, api.ErrLong)
		for range n {
			w.put(byte(w.number(8)))
		}
	case 1:
		w.symbols(fixedNames, fixedDistanceNames)
	case 2:
		lengths, distances := w.own()
		w.symbols(named(lengths), named(distances))
	case 3:
		panic(wrong(api.ErrBits))
	}
}

// fixedLengths are those of the table of RFC 1951, 3.2.6.
func fixedLengths() []int {
	return append(append(append(times(8, 144), times(9, 112)...), times(7, 24)...), times(8, 8)...)
}

// the fixed codes
var (
	fixedNames         = named(fixedLengths())
	fixedDistanceNames = named(times(5, 32))
)

// times tells a list of n times l.
func times(l, n int) []int {
	all := make([]int, n)
	for i := range all {
		all[i] = l
	}
	return all
}

// named tells the codes of lengths, bit by bit, each with its symbol.
func named(lengths []int) map[string]int {
	m := map[string]int{}
	next := 0
	for l := 1; l <= 15; l++ {
		for x, n := range lengths {
			if n == l {
				s := strconv.FormatInt(int64(next), 2)
				m[strings.Repeat("0", max(0, l-len(s)))+s] = x
				next++
			}
		}
		next *= 2
	}
	return m
}

// mayBe tells whether lengths may be.
func mayBe(lengths []int) bool {
	sum, count, only := 0, 0, 0
	for _, l := range lengths {
		if l != 0 {
			sum += 1 << (15 - l)
			count++
			only = l
		}
	}
	return sum == 1<<15 || count == 1 && only == 1
}

// symbol gets one of codes.
func (w *told) symbol(codes map[string]int) int {
	_, alone := codes["0"]
	for got := 1; got <= 15; got++ {
		must(w.at < len(w.bits), api.ErrShort)
		w.at++
		if x, ok := codes[w.bits[w.at-got:w.at]]; ok {
			return x
		}
		if alone && len(codes) == 1 {
			break
		}
	}
	panic(wrong(api.ErrBits))
}

// row is one of the tables of RFC 1951, 3.2.5: how many bits stand behind a code, and the least number it stands for.
type row struct{ extra, least int }

// lengthRow tells that of a length.
func lengthRow(symbol int) row {
	leasts := []int{3, 4, 5, 6, 7, 8, 9, 10, 11, 13, 15, 17, 19, 23, 27, 31, 35, 43, 51, 59, 67, 83, 99, 115, 131, 163, 195, 227, 258}
	extras := []int{0, 0, 0, 0, 0, 0, 0, 0, 1, 1, 1, 1, 2, 2, 2, 2, 3, 3, 3, 3, 4, 4, 4, 4, 5, 5, 5, 5, 0}
	return row{extras[symbol-257], leasts[symbol-257]}
}

// distanceRow tells that of a distance.
func distanceRow(symbol int) row {
	leasts := []int{1, 2, 3, 4, 5, 7, 9, 13, 17, 25, 33, 49, 65, 97, 129, 193, 257, 385, 513, 769, 1025, 1537, 2049, 3073, 4097, 6145, 8193, 12289, 16385, 24577}
	extras := []int{0, 0, 0, 0, 1, 1, 2, 2, 3, 3, 4, 4, 5, 5, 6, 6, 7, 7, 8, 8, 9, 9, 10, 10, 11, 11, 12, 12, 13, 13}
	return row{extras[symbol], leasts[symbol]}
}

// symbols gets symbols up to the end.
func (w *told) symbols(byLength, byDistance map[string]int) {
	for {
		x := w.symbol(byLength)
		if x == 256 {
			return
		}
		if x < 256 {
			w.put(byte(x))
			continue
		}
		must(x <= 285, api.ErrBits)
		r := lengthRow(x)
		n := r.least + w.number(r.extra)
		y := w.symbol(byDistance)
		must(y <= 29, api.ErrBits)
		r = distanceRow(y)
		back := r.least + w.number(r.extra)
		must(back <= len(w.out), api.ErrBits)
		for range n {
			w.put(w.out[len(w.out)-back])
		}
	}
}

// own gets a block's own codes' lengths.
func (w *told) own() (lengths, distances []int) {
	n, m, k := w.number(5)+257, w.number(5)+1, w.number(4)+4
	first := make([]int, 19)
	for _, x := range []int{16, 17, 18, 0, 8, 7, 9, 6, 10, 5, 11, 4, 12, 3, 13, 2, 14, 1, 15}[:k] {
		first[x] = w.number(3)
	}
	must(n <= 286 && m <= 30 && mayBe(first), api.ErrBits)
	var all []int
	for codes := named(first); len(all) < n+m; {
		switch x := w.symbol(codes); x {
		case 16:
			count := 3 + w.number(2)
			must(len(all) > 0, api.ErrBits)
			all = append(all, times(all[len(all)-1], count)...)
		case 17:
			all = append(all, times(0, 3+w.number(3))...)
		case 18:
			all = append(all, times(0, 11+w.number(7))...)
		default:
			all = append(all, x)
		}
		must(len(all) <= n+m, api.ErrBits)
	}
	lengths, distances = all[:n], all[n:]
	must(all[256] > 0 && mayBe(lengths), api.ErrBits)
	must(mayBe(distances) || len(named(distances)) == 0, api.ErrBits)
	return lengths, distances
}

// made is bits that are put together by hand.
type made struct {
	bits strings.Builder
}

// number puts the k bits of n.
func (m *made) number(n, k int) *made {
	for i := range k {
		m.bits.WriteByte('0' + byte(n>>i&1))
	}
	return m
}

// code puts the code that a symbol has by lengths, its highest bit first.
func (m *made) code(lengths []int, symbol int) *made {
	long, n := lengths[symbol], 0
	for l := 1; l <= long; l++ {
		n *= 2
		for x, k := range lengths {
			if k == l && (l < long || x < symbol) {
				n++
			}
		}
	}
	for i := range long {
		m.number(n>>(long-1-i)&1, 1)
	}
	return m
}

// fixed puts symbols by the fixed codes.
func (m *made) fixed(symbols ...int) *made {
	for _, x := range symbols {
		m.code(fixedLengths(), x)
	}
	return m
}

// far puts the symbol of a distance by the fixed codes.
func (m *made) far(symbol int) *made {
	return m.code(times(5, 32), symbol)
}

// head puts the beginning of a block.
func (m *made) head(last, kind int) *made {
	return m.number(last, 1).number(kind, 2)
}

// stored puts a stored block, filled up by bits of 1.
func (m *made) stored(last int, b []byte) *made {
	m.head(last, 0)
	for m.bits.Len()%8 != 0 {
		m.number(1, 1)
	}
	m.number(len(b), 16).number(65535-len(b), 16)
	for _, x := range b {
		m.number(int(x), 8)
	}
	return m
}

// plainOwn are lengths of lengths' codes by which each one can be told: full ones.
func plainOwn() []int {
	return append(times(4, 13), times(5, 6)...)
}

// ownHead puts the beginning of a block of its own codes, up to the lengths of their lengths.
func (m *made) ownHead(last, n, k int, own []int) *made {
	m.head(last, 2).number(n-257, 5).number(k-1, 5).number(15, 4)
	for _, x := range []int{16, 17, 18, 0, 8, 7, 9, 6, 10, 5, 11, 4, 12, 3, 13, 2, 14, 1, 15} {
		m.number(own[x], 3)
	}
	return m
}

// own puts the beginning of a block by codes of these lengths, up to its first symbol.
func (m *made) own(last int, lengths, distances []int) *made {
	m.ownHead(last, len(lengths), len(distances), plainOwn())
	for _, l := range append(append([]int{}, lengths...), distances...) {
		m.code(plainOwn(), l)
	}
	return m
}

// bytes tells all bits, filled up by bits of 0.
func (m *made) bytes() []byte {
	s := m.bits.String()
	b := make([]byte, (len(s)+7)/8)
	for i := range s {
		b[i/8] |= (s[i] - '0') << (i % 8)
	}
	return b
}

// drawnLengths tells lengths that may be, of codes of just those symbols below n that there are; at most 15 each.
func drawnLengths(r *rand.Rand, n int, symbols []int) []int {
	leaves := []int{0}
	for len(leaves) < len(symbols) {
		i := r.Intn(len(leaves))
		if leaves[i] == 15 {
			continue
		}
		leaves[i]++
		leaves = append(leaves, leaves[i])
	}
	if len(symbols) == 1 {
		leaves[0] = 1
	}
	all := make([]int, n)
	for i, x := range symbols {
		all[x] = leaves[i]
	}
	return all
}
