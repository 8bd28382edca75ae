package png_test

import (
	"math"
	"slices"
	"strconv"
	"testing"

	"lightwell/api"
	"lightwell/png"
)

// passTold tells in which pass a pixel is, by the picture of eight by eight pixels that the PNG specification draws.
func passTold(w, number int) byte {
	drawing := []string{
		"16462646",
		"77777777",
		"56565656",
		"77777777",
		"36463646",
		"77777777",
		"56565656",
		"77777777",
	}
	return drawing[number/w%8][number%w%8]
}

// orderTold tells the numbers of all pixels: as they stand, and then in order of their passes.
func orderTold(w, h int) []int {
	order := make([]int, w*h)
	for n := range order {
		order[n] = n
	}
	slices.SortStableFunc(order, func(a, b int) int { return int(passTold(w, a)) - int(passTold(w, b)) })
	return order
}

// size is a picture's: columns and rows.
type size struct{ w, h int }

func (s size) String() string {
	return strconv.Itoa(s.w) + " by " + strconv.Itoa(s.h)
}

// smallSizes are all up to 18 by 18: with one column, one row, passes without either.
func smallSizes() []size {
	var sizes []size
	for w := 1; w <= 18; w++ {
		for h := 1; h <= 18; h++ {
			sizes = append(sizes, size{w, h})
		}
	}
	return sizes
}

// greatSizes have the greatest side, or nearly.
func greatSizes() []size {
	return []size{{1024, 1}, {1, 1024}, {1023, 2}, {2, 1023}, {1024, 5}, {5, 1024}, {1000, 33}}
}

// wrongSizes have a side that may not be: each alone and both.
func wrongSizes() []size {
	sides := []int{0, -1, -8, -1024, api.MaxSide + 1, 2000, 1 << 31, 1<<32 + 1, math.MaxInt, math.MinInt}
	var sizes []size
	for _, a := range sides {
		for _, b := range []int{1, 2, 9, api.MaxSide} {
			sizes = append(sizes, size{a, b}, size{b, a})
		}
		for _, b := range sides {
			sizes = append(sizes, size{a, b})
		}
	}
	return sizes
}

// mustOrder asks for the order of that size, and it must be that.
func mustOrder(t *testing.T, s size, want []int) {
	t.Helper()
	if got := png.Order(s.w, s.h); !slices.Equal(got, want) {
		t.Errorf("Order of %v: %v, want %v", s, firstOf(got), firstOf(want))
	}
}

// firstOf tells the first ones of a long list.
func firstOf(l []int) []int {
	return l[:min(len(l), 40)]
}

// P9.1: the chapter's examples.
func TestOrderExamples(t *testing.T) {
	mustOrder(t, size{3, 2}, []int{0, 2, 1, 3, 4, 5})
	mustOrder(t, size{1, 1}, []int{0})
	mustOrder(t, size{9, 1}, []int{0, 8, 4, 2, 6, 1, 3, 5, 7})
}

// P9.1: sizes told by hand: one column, and all seven passes of eight by eight pixels.
func TestOrderByHand(t *testing.T) {
	mustOrder(t, size{1, 9}, []int{0, 8, 4, 2, 6, 1, 3, 5, 7})
	mustOrder(t, size{2, 2}, []int{0, 1, 2, 3})
	mustOrder(t, size{5, 1}, []int{0, 4, 2, 1, 3})
	mustOrder(t, size{8, 8}, []int{
		0,
		4,
		32, 36,
		2, 6, 34, 38,
		16, 18, 20, 22, 48, 50, 52, 54,
		1, 3, 5, 7, 17, 19, 21, 23, 33, 35, 37, 39, 49, 51, 53, 55,
		8, 9, 10, 11, 12, 13, 14, 15, 24, 25, 26, 27, 28, 29, 30, 31, 40, 41, 42, 43, 44, 45, 46, 47, 56, 57, 58, 59, 60, 61, 62, 63,
	})
}

// P9.1: sizes of every kind, against the drawing of the passes.
func TestOrderSizes(t *testing.T) {
	for _, s := range slices.Concat(smallSizes(), greatSizes()) {
		mustOrder(t, s, orderTold(s.w, s.h))
	}
	mustOrder(t, size{1024, 1024}, orderTold(1024, 1024))
}

// P9.3: each number stands in it once.
func TestOrderEachOnce(t *testing.T) {
	for _, s := range slices.Concat(smallSizes(), greatSizes(), []size{{1024, 1024}, {1023, 1021}}) {
		order := png.Order(s.w, s.h)
		if len(order) != s.w*s.h {
			t.Errorf("Order of %v: %d numbers", s, len(order))
			continue
		}
		slices.Sort(order)
		for n, got := range order {
			if got != n {
				t.Errorf("Order of %v, sorted: %d at %d", s, got, n)
				break
			}
		}
	}
}

// P9.1: sides that may not be have no pixels.
func TestOrderWrongSizes(t *testing.T) {
	for _, s := range wrongSizes() {
		mustOrder(t, s, nil)
	}
}

// R3: each answer is new: what is done to one is not felt by the next.
func TestOrderIsNew(t *testing.T) {
	for _, s := range []size{{1, 1}, {3, 2}, {9, 17}} {
		order := png.Order(s.w, s.h)
		clear(order[:cap(order)])
		mustOrder(t, s, orderTold(s.w, s.h))
	}
}
