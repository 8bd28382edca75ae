package texture

import (
	"lightwell/api"
	"lightwell/png"
)

// what is added to a row's bytes, by the row's first one; by 0, nothing
const (
	filterLeft    = 1 // the byte of the pixel ahead
	filterAbove   = 2 // that of the row ahead
	filterHalf    = 3 // half of both
	filterNearest = 4 // the nearest to what both say of it
)

const filterSize = 1 // bytes ahead of a row's pixels

// grid is a picture, or a pass of one: how many columns and rows it has.
type grid struct {
	columns, rows int
}

// bytes tells how many bytes the rows have; rows without pixels have none.
func (g grid) bytes(size int) int {
	if g.columns == 0 {
		return 0
	}
	return g.rows * (filterSize + g.columns*size)
}

// grids tells the picture, or its passes.
func (h head) grids() []grid {
	if h.laced {
		return passes(h.w, h.h)
	}
	return []grid{{h.w, h.h}}
}

// passes tells the passes of a picture: first each eighth pixel of each eighth row;
// then, again and again, those in the middle between two in a row, and the rows in the middle between two.
func passes(w, h int) []grid {
	grids := []grid{{count(w, 0, 8), count(h, 0, 8)}}
	for step := 8; step > 1; step /= 2 {
		grids = append(grids,
			grid{count(w, step/2, step), count(h, 0, step)},
			grid{count(w, 0, step/2), count(h, step/2, step)})
	}
	return grids
}

// count tells how many of first, first + step and so on are below n; first is below step.
func count(n, first, step int) int {
	return (n - first + step - 1) / step
}

// rowBytes tells how many bytes all rows have.
func (h head) rowBytes() int {
	all := 0
	for _, g := range h.grids() {
		all += g.bytes(h.size)
	}
	return all
}

// undoAll tells the pixels' bytes, as they come, of all rows; these it undoes where they stand.
func (h head) undoAll(b []byte) ([]byte, api.Errno) {
	pixels := make([]byte, 0, h.w*h.h*h.size)
	for _, g := range h.grids() {
		n := g.bytes(h.size)
		var e api.Errno
		if pixels, e = g.undo(pixels, b[:n], h.size); e != api.OK {
			return nil, e
		}
		b = b[n:]
	}
	return pixels, api.OK
}

// undo undoes the rows of a grid, and puts the bytes of their pixels behind pixels.
func (g grid) undo(pixels, b []byte, size int) ([]byte, api.Errno) {
	ahead := make([]byte, g.columns*size)
	for len(b) > 0 {
		filter, row := b[0], b[filterSize:filterSize+len(ahead)]
		if filter > filterNearest {
			return nil, api.ErrBits
		}
		added := adder(filter, row, ahead, size)
		for i := range row {
			row[i] += added(i)
		}
		pixels = append(pixels, row...)
		ahead, b = row, b[filterSize+len(row):]
	}
	return pixels, api.OK
}

// adder gives the function that tells what a filter adds to the byte at a place of a row,
// where all bytes ahead of that place, and the row ahead, are undone.
func adder(filter byte, row, ahead []byte, size int) func(i int) byte {
	before := func(b []byte, i int) int {
		if i < size {
			return 0
		}
		return int(b[i-size])
	}
	switch filter {
	case filterLeft:
		return func(i int) byte { return byte(before(row, i)) }
	case filterAbove:
		return func(i int) byte { return ahead[i] }
	case filterHalf:
		return func(i int) byte { return byte((before(row, i) + int(ahead[i])) / 2) }
	case filterNearest:
		return func(i int) byte { return byte(nearest(before(row, i), int(ahead[i]), before(ahead, i))) }
	}
	return func(int) byte { return 0 }
}

// nearest tells which of a, b and c is nearest to a + b - c; of the same the first of them.
func nearest(a, b, c int) int {
	goal, best := a+b-c, a
	for _, x := range [2]int{b, c} {
		if far(x, goal) < far(best, goal) {
			best = x
		}
	}
	return best
}

// far tells how far x and y are apart.
func far(x, y int) int {
	return max(x-y, y-x)
}

// spread tells the pixels of a texture, row by row, of those that come as the picture's rows do.
func (h head) spread(pixels []byte) []byte {
	pix := make([]byte, pixelSize*h.w*h.h)
	nth := h.numbers()
	for i := range h.w * h.h {
		pixel := pix[pixelSize*nth(i):][:pixelSize]
		pixel[pixelSize-1] = brightest // which pixels with four bytes of their own change
		copy(pixel, pixels[h.size*i:][:h.size])
	}
	return pix
}

// numbers gives the function that tells the number of the pixel that comes behind i others.
func (h head) numbers() func(i int) int {
	if !h.laced {
		return func(i int) int { return i }
	}
	order := png.Order(h.w, h.h)
	return func(i int) int { return order[i] }
}
