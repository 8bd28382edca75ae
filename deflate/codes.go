package deflate

import mathbits "math/bits"

// symbols of the fixed codes
const (
	symbolEnd     = 256
	symbolLengths = 257 // that of the shortest match
	symbolLongest = 285
)

// spell hands b's parts by the fixed codes to put, and the end: the k bits of n each time.
func spell(b []byte, parts []part, put func(n uint32, k int)) {
	lengths, distances := grouped(4), grouped(2)
	for _, p := range parts {
		if p.back == 0 {
			put(fixed(uint32(b[0])))
		} else {
			spellLength(p.length, lengths, put)
			code, extra, rest := distances(p.back - 1)
			put(highestFirst(code, 5))
			put(rest, extra)
		}
		b = b[p.length:]
	}
	put(fixed(symbolEnd))
}

// spellLength hands the length of a match to put.
func spellLength(length int, lengths func(n int) (uint32, int, uint32), put func(n uint32, k int)) {
	if length == longest { // it has a code by itself, beside the one that the groups make of it
		put(fixed(symbolLongest))
		return
	}
	code, extra, rest := lengths(length - shortest)
	put(fixed(symbolLengths + code))
	put(rest, extra)
}

// grouped tells of numbers from 0 on their code, how many bits stand behind it, and these:
// the first codes have none, twice so many as a group has; then each group has one bit more than the one ahead.
func grouped(group int) func(n int) (code uint32, extra int, rest uint32) {
	return func(n int) (uint32, int, uint32) {
		extra := 0
		for n>>extra >= 2*group {
			extra++
		}
		return uint32(group*extra + n>>extra), extra, uint32(n & (1<<extra - 1))
	}
}

// fixed tells the fixed code of a byte, a length or the end, as bits, and how many these are.
func fixed(symbol uint32) (uint32, int) {
	switch {
	case symbol < 144:
		return highestFirst(48+symbol, 8)
	case symbol < 256:
		return highestFirst(400+symbol-144, 9)
	case symbol < 280:
		return highestFirst(symbol-256, 7)
	}
	return highestFirst(192+symbol-280, 8)
}

// highestFirst tells the k bits of a code turned round, for a code's highest bit comes first.
func highestFirst(code uint32, k int) (uint32, int) {
	return mathbits.Reverse32(code) >> (32 - k), k
}
