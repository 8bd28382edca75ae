package texture

import (
	"lightwell/api"
	"lightwell/sums"
)

const signature = "\x89PNG\r\n\x1a\n" // what a picture begins with

// kinds of chunks
const (
	kindHead = "IHDR"
	kindData = "IDAT"
	kindEnd  = "IEND"
)

// bytes of a chunk's parts
const (
	numberSize = 4 // its length, its sum
	kindSize   = 4
	headSize   = 13 // what a head says
)

// what a head says of pixels and rows
const (
	headDepth   = 8 // bits of each of a pixel's numbers
	headOpaque  = 2 // red, green, blue
	headColours = 6 // and how much of them
	headPacked  = 0 // as a zlib stream
	headFilters = 0 // each row begins with its own
	headWhole   = 0 // row by row
	headLaced   = 1 // pass by pass
)

// head is what a picture's head says: columns, rows, bytes of a pixel, and whether it comes pass by pass.
type head struct {
	w, h, size int
	laced      bool
}

// chunk is one of a picture.
type chunk struct {
	kind string
	says []byte
}

// readChunks tells what the head of a picture says, and its packed rows.
func readChunks(b []byte) (head, []byte, api.Errno) {
	if len(b) < len(signature) || string(b[:len(signature)]) != signature {
		return head{}, nil, api.ErrKind
	}
	c, behind, e := readChunk(b[len(signature):])
	if e != api.OK {
		return head{}, nil, e
	}
	if c.kind != kindHead || len(c.says) != headSize {
		return head{}, nil, api.ErrBits
	}
	h, e := readHead(c.says)
	if e != api.OK {
		return head{}, nil, e
	}
	packed, e := readData(behind)
	if e != api.OK {
		return head{}, nil, e
	}
	return h, packed, api.OK
}

// readChunk tells the chunk that b begins with, and the bytes behind it.
func readChunk(b []byte) (chunk, []byte, api.Errno) {
	if len(b) < numberSize {
		return chunk{}, nil, api.ErrShort
	}
	length, b := number(b), b[numberSize:]
	if length > api.MaxData {
		return chunk{}, nil, api.ErrLong
	}
	summed := kindSize + int(length)
	if len(b) < summed+numberSize {
		return chunk{}, nil, api.ErrShort
	}
	if sums.Crc(0, b[:summed]) != number(b[summed:]) {
		return chunk{}, nil, api.ErrSum
	}
	return chunk{string(b[:kindSize]), b[kindSize:summed]}, b[summed+numberSize:], api.OK
}

// number tells the number of four bytes, the highest first.
func number(b []byte) uint32 {
	return uint32(b[0])<<24 | uint32(b[1])<<16 | uint32(b[2])<<8 | uint32(b[3])
}

// readHead tells what a head's bytes say.
func readHead(b []byte) (head, api.Errno) {
	w, h, depth, colours, laced := int(number(b)), int(number(b[4:])), b[8], b[9], b[12]
	if !sideMayBe(w) || !sideMayBe(h) {
		return head{}, api.ErrArg
	}
	if depth != headDepth || colours != headOpaque && colours != headColours ||
		b[10] != headPacked || b[11] != headFilters || laced != headWhole && laced != headLaced {
		return head{}, api.ErrKind
	}
	size := pixelSize
	if colours == headOpaque {
		size--
	}
	return head{w, h, size, laced == headLaced}, api.OK
}

// readData tells the packed rows of the chunks behind a head, up to the end of the picture.
func readData(b []byte) ([]byte, api.Errno) {
	var packed []byte
	for {
		c, behind, e := readChunk(b)
		if e != api.OK {
			return nil, e
		}
		switch {
		case c.kind == kindData:
			packed = append(packed, c.says...)
		case c.kind == kindEnd && len(c.says) == 0 && len(behind) == 0:
			return packed, api.OK
		case c.kind == kindHead || c.kind == kindEnd:
			return nil, api.ErrBits
		case mustBeKnown(c.kind):
			return nil, api.ErrKind
		}
		b = behind
	}
}

// mustBeKnown tells whether a picture is not told without chunks of that kind.
func mustBeKnown(kind string) bool {
	return 'A' <= kind[0] && kind[0] <= 'Z'
}
