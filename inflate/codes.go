package inflate

import "lightwell/api"

const mostBits = 15 // of a code

// most lengths of codes that a block of its own codes may have
const (
	mostSymbols     = 286
	mostLengthCodes = 19
)

// symbols by which the lengths of codes are told; those below are lengths
const (
	symbolAgain     = 16
	symbolZeros     = 17
	symbolManyZeros = 18
)

// lengthOrder is the order in which the lengths' own codes come.
var lengthOrder = [mostLengthCodes]int{16, 17, 18, 0, 8, 7, 9, 6, 10, 5, 11, 4, 12, 3, 13, 2, 14, 1, 15}

// codes is symbols by rising codes, and how many of these have each length: so a code is told by its place among those of its length.
type codes struct {
	counts  [mostBits + 1]int
	symbols []int
}

// pair is what a block is read by.
type pair struct {
	symbols   codes
	distances codes
}

// newCodes makes the codes of lengths, one a symbol.
func newCodes(lengths []int) codes {
	var c codes
	for _, l := range lengths {
		c.counts[l]++
	}
	c.counts[0] = 0
	var places [mostBits + 1]int
	all := 0
	for l, n := range c.counts {
		places[l] = all
		all += n
	}
	c.symbols = make([]int, all)
	for x, l := range lengths {
		if l > 0 {
			c.symbols[places[l]] = x
			places[l]++
		}
	}
	return c
}

// alone tells whether there is one code, of one bit.
func (c *codes) alone() bool {
	return len(c.symbols) == 1 && c.counts[1] == 1
}

// mayBe tells whether the lengths may be: no bits are left that are no code, but of one code alone.
func (c *codes) mayBe() bool {
	sum := 0
	for l, n := range c.counts {
		sum += n << (mostBits - l)
	}
	return sum == 1<<mostBits || c.alone()
}

// deepest tells how many bits are got before it is said that they are no code.
func (c *codes) deepest() int {
	if c.alone() {
		return 1
	}
	return mostBits
}

// symbol gets a symbol, bit by bit.
func (s *stream) symbol(c *codes) int {
	code, first, place := 0, 0, 0 // the first code of so many bits, and the place of its symbol
	for l, deepest := 1, c.deepest(); l <= deepest; l++ {
		code = 2*code + s.get(1)
		first *= 2
		if code-first < c.counts[l] {
			return c.symbols[place+code-first]
		}
		first += c.counts[l]
		place += c.counts[l]
	}
	panic(api.ErrBits)
}

// fixedPair tells the fixed codes.
func fixedPair() *pair {
	lengths := make([]int, 0, 288)
	put := func(l, n int) {
		for range n {
			lengths = append(lengths, l)
		}
	}
	put(8, 144)
	put(9, 112)
	put(7, 24)
	put(8, 8)
	symbols := newCodes(lengths)
	lengths = lengths[:0]
	put(5, 32)
	return &pair{symbols, newCodes(lengths)}
}

// ownPair gets the codes of a block with codes of its own.
func (s *stream) ownPair() *pair {
	n := s.get(5) + 257
	m := s.get(5) + 1
	k := s.get(4) + 4
	own := make([]int, mostLengthCodes)
	for i := range k {
		own[lengthOrder[i]] = s.get(3)
	}
	c := newCodes(own)
	refuse(n > mostSymbols || m > mostDistances || !c.mayBe(), api.ErrBits)
	lengths := s.lengths(&c, n+m)
	refuse(lengths[symbolEnd] == 0, api.ErrBits)
	p := &pair{newCodes(lengths[:n]), newCodes(lengths[n:])}
	refuse(!p.symbols.mayBe(), api.ErrBits)
	refuse(!p.distances.mayBe() && len(p.distances.symbols) > 0, api.ErrBits)
	return p
}

// lengths gets so many lengths of codes by their own codes.
func (s *stream) lengths(c *codes, want int) []int {
	lengths := make([]int, 0, want)
	put := func(l, times int) {
		refuse(times > want-len(lengths), api.ErrBits)
		for range times {
			lengths = append(lengths, l)
		}
	}
	for len(lengths) < want {
		switch x := s.symbol(c); x {
		case symbolAgain:
			times := 3 + s.get(2)
			refuse(len(lengths) == 0, api.ErrBits)
			put(lengths[len(lengths)-1], times)
		case symbolZeros:
			put(0, 3+s.get(3))
		case symbolManyZeros:
			put(0, 11+s.get(7))
		default:
			put(x, 1)
		}
	}
	return lengths
}
