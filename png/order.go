package png

import "lightwell/api"

// Order tells the numbers of all pixels, in Adam7 order.
func Order(w, h int) []int {
	if !mayBe(w, h) {
		return nil
	}
	order := make([]int, 0, w*h)
	eachPixel(w, h, func(number int, _ bool) { order = append(order, number) })
	return order
}

// rows tells how many pixels each row of each pass has; rows without pixels are none.
func rows(w, h int) []int {
	var counts []int
	eachPixel(w, h, func(_ int, first bool) {
		if first {
			counts = append(counts, 0)
		}
		counts[len(counts)-1]++
	})
	return counts
}

// mayBe tells whether a picture may have these sides.
func mayBe(w, h int) bool {
	return 1 <= w && w <= api.MaxSide && 1 <= h && h <= api.MaxSide
}

// eachPixel hands do the number of each pixel, in Adam7 order, and whether it is the first one of a row of its pass.
func eachPixel(w, h int, do func(number int, first bool)) {
	for _, p := range passes() {
		for y := p[1]; y < h; y += p[3] {
			for x := p[0]; x < w; x += p[2] {
				do(y*w+x, x == p[0])
			}
		}
	}
}

// passes tells of each pass its first column and row, and how far it is from each to the next.
func passes() [7][4]int {
	return [7][4]int{
		{0, 0, 8, 8},
		{4, 0, 8, 8},
		{0, 4, 4, 8},
		{2, 0, 4, 4},
		{0, 2, 2, 4},
		{1, 0, 2, 2},
		{0, 1, 1, 2},
	}
}
