package texture_test

import (
	"math"
	"math/big"
	"math/rand"
	"slices"
	"strconv"
	"testing"

	"lightwell/api"
	"lightwell/texture"
)

// painted tells a texture whose pixels are all other ones.
func painted(w, h int) api.Texture {
	t := api.Texture{W: w, H: h}
	for n := range w * h {
		t.Pix = append(t.Pix, byte(n), byte(n>>8), byte(n>>16)+100, byte(n*7))
	}
	return t
}

// rat tells what a number counts as.
func rat(x int64) *big.Rat {
	return new(big.Rat).SetFrac(big.NewInt(x), big.NewInt(1<<32))
}

// down tells the greatest whole number that is not above r.
func down(r *big.Rat) *big.Int {
	return new(big.Int).Div(r.Num(), r.Denom()) // by what is above 0 it goes down
}

// placeTold tells the column, or row, at u, of n, in numbers without an end.
func placeTold(u int64, n int) int {
	r := rat(u)
	r.Sub(r, new(big.Rat).SetInt(down(r)))
	r.Mul(r, big.NewRat(int64(n), 1))
	return int(down(r).Int64())
}

// sampleTold tells what Sample must answer of a right texture.
func sampleTold(t api.Texture, u, v int64) api.Vec {
	n := placeTold(v, t.H)*t.W + placeTold(u, t.W)
	part := func(i int) int64 { return int64(t.Pix[4*n+i]) << 32 / 255 }
	return api.Vec{X: part(0), Y: part(1), Z: part(2)}
}

// mustSample asks for a colour, and it must be that.
func mustSample(t *testing.T, name string, x api.Texture, u, v int64, want api.Vec) {
	t.Helper()
	if got := texture.Sample(x, u, v); got != want {
		t.Errorf("%s, %d by %d, at %d, %d: %v, want %v", name, x.W, x.H, u, v, got, want)
	}
}

// sizes are those of right textures: the least, the greatest, and between.
func sizes() [][2]int {
	return [][2]int{{1, 1}, {1, 2}, {2, 1}, {3, 3}, {7, 5}, {16, 9}, {1, 1024}, {1024, 1}, {1023, 3}, {255, 257}, {1024, 1024}}
}

// P10.2: the chapter's examples.
func TestSampleExamples(t *testing.T) {
	one := api.Texture{W: 1, H: 1, Pix: []byte{1, 2, 3, 255}}
	want := api.Vec{X: 1 << 32 / 255, Y: 2 << 32 / 255, Z: 3 << 32 / 255}
	for _, u := range []int64{0, 1, -1, 1 << 31, 1 << 32, -1 << 32, math.MaxInt64, math.MinInt64} {
		for _, v := range []int64{0, 12345, -9, 1 << 32, math.MaxInt64, math.MinInt64} {
			mustSample(t, "one pixel", one, u, v, want)
			mustSample(t, "the zero texture", api.Texture{}, u, v, api.Vec{})
		}
	}
}

// P10.2: where each pixel begins and ends, from 0 to 1; u goes along columns, v along rows, from the first one.
func TestSampleEachPixel(t *testing.T) {
	for _, size := range sizes() {
		x := painted(size[0], size[1])
		check := func(u, v int64) { mustSample(t, "each", x, u, v, sampleTold(x, u, v)) }
		for column := range x.W {
			first := (int64(column)<<32 + int64(x.W) - 1) / int64(x.W) // the least number that is there
			check(first, 0)
			check(first, api.One-1)
			check(first-1, 1<<31)
			check(first+1, 0)
		}
		for row := range x.H {
			first := (int64(row)<<32 + int64(x.H) - 1) / int64(x.H)
			check(0, first)
			check(api.One-1, first)
			check(1<<31, first-1)
			check(0, first+1)
		}
	}
}

// P10.2: two by two pixels, told by hand.
func TestSampleByHand(t *testing.T) {
	x := api.Texture{W: 2, H: 2, Pix: []byte{255, 0, 0, 0, 0, 255, 0, 1, 0, 0, 255, 2, 51, 102, 204, 3}}
	red, green, blue := api.Vec{X: 1 << 32}, api.Vec{Y: 1 << 32}, api.Vec{Z: 1 << 32}
	grey := api.Vec{X: 1 << 32 / 5, Y: 2 << 32 / 5, Z: 4 << 32 / 5}
	half := int64(1 << 31)
	for _, whole := range []int64{0, 1 << 32, 7 << 32, -1 << 32, -9 << 32, -1 << 63, 1<<63 - 1<<32} {
		for _, other := range []int64{0, 3 << 32, -1 << 63, 1<<63 - 1<<32} {
			u, v := whole, other
			mustSample(t, "first of first", x, u, v, red)
			mustSample(t, "first of first, its end", x, u+half-1, v+half-1, red)
			mustSample(t, "second of first", x, u+half, v, green)
			mustSample(t, "second of first, its end", x, u+2*half-1, v+half-1, green)
			mustSample(t, "first of second", x, u, v+half, blue)
			mustSample(t, "first of second, its end", x, u+half-1, v+2*half-1, blue)
			mustSample(t, "second of second", x, u+half, v+half, grey)
			mustSample(t, "the end", x, u+2*half-1, v+2*half-1, grey)
		}
	}
}

// P10.2: at numbers of all sizes: below 0, above 1, whole ones and beside them, at the ends.
func TestSampleFar(t *testing.T) {
	r := rand.New(rand.NewSource(13))
	var numbers []int64
	for _, x := range []int64{0, 1 << 30, 1 << 31, 3 << 30, 1 << 32, 5 << 31, 1 << 40, 1 << 62, 1<<63 - 1<<32, 1<<63 - 1, -1 << 63} {
		numbers = append(numbers, x-1, x, x+1, -x) // at the ends they wrap to the other one
	}
	for range 100 {
		numbers = append(numbers, int64(r.Uint64())>>r.Intn(64))
	}
	for _, size := range sizes() {
		x := painted(size[0], size[1])
		for _, u := range numbers {
			for range 20 {
				v := numbers[r.Intn(len(numbers))]
				mustSample(t, "far", x, u, v, sampleTold(x, u, v))
				mustSample(t, "far", x, v, u, sampleTold(x, v, u))
			}
		}
	}
}

// P10.2, P10.3: each byte as a part of 1, in each of three places, from 0 to 1; the fourth one changes nothing.
func TestSampleBytes(t *testing.T) {
	last := int64(-1)
	for n := range 256 {
		part := int64(n) << 32 / 255
		for _, fourth := range []byte{0, 1, 255} {
			for i, want := range []api.Vec{{X: part}, {Y: part}, {Z: part}} {
				x := api.Texture{W: 1, H: 1, Pix: []byte{0, 0, 0, fourth}}
				x.Pix[i] = byte(n)
				mustSample(t, strconv.Itoa(n), x, 0, 0, want)
				if got := texture.Sample(x, 0, 0); min(got.X, got.Y, got.Z) < 0 || max(got.X, got.Y, got.Z) > api.One {
					t.Errorf("%d: not from 0 to 1: %v", n, got)
				}
			}
		}
		if part <= last {
			t.Error("not above the one ahead:", n)
		}
		last = part
	}
	white := api.Texture{W: 1, H: 1, Pix: []byte{255, 255, 255, 0}}
	mustSample(t, "white", white, 0, 0, api.Vec{X: api.One, Y: api.One, Z: api.One})
}

// P10.2: textures that are not right have no colour anywhere.
func TestSampleWrong(t *testing.T) {
	full := slices.Repeat([]byte{255}, 4*1025*4)
	for _, x := range []api.Texture{
		{},
		{W: 0, H: 1, Pix: nil},
		{W: 1, H: 0, Pix: nil},
		{W: 0, H: 0, Pix: full[:4]},
		{W: 1, H: 1, Pix: nil},
		{W: 1, H: 1, Pix: full[:3]},
		{W: 1, H: 1, Pix: full[:5]},
		{W: 1, H: 1, Pix: full[:8]},
		{W: 2, H: 3, Pix: full[:23]},
		{W: 2, H: 3, Pix: full[:25]},
		{W: 2, H: 3, Pix: full[:18]},
		{W: -1, H: 1, Pix: full[:4]},
		{W: 1, H: -1, Pix: full[:4]},
		{W: -1, H: -1, Pix: full[:4]},
		{W: -2, H: -2, Pix: full[:16]},
		{W: 1025, H: 1, Pix: full[:4*1025]},
		{W: 1, H: 1025, Pix: full[:4*1025]},
		{W: 1025, H: 4, Pix: full},
		{W: math.MaxInt, H: math.MaxInt, Pix: full[:4]},
		{W: math.MinInt, H: math.MinInt, Pix: nil},
		{W: 1 << 31, H: 1 << 31, Pix: nil},
		{W: 1 << 32, H: 1 << 30, Pix: nil}, // four times that is 2^64
		{W: math.MaxInt, H: 1, Pix: full[:4]},
		{W: 1, H: math.MinInt, Pix: full[:4]},
	} {
		for _, u := range []int64{0, 1 << 31, -1, math.MaxInt64, math.MinInt64} {
			mustSample(t, "wrong", x, u, 0, api.Vec{})
			mustSample(t, "wrong", x, 0, u, api.Vec{})
		}
	}
}

// P10.2: what was decoded is sampled pixel by pixel.
func TestSampleDecoded(t *testing.T) {
	for _, s := range sorts(13, 6) {
		pix := pixels(s.w, s.h)["drawn"]
		rows, _ := rowsTold(s, pix, always(4))
		x, e := texture.Decode(fileTold(s, packed(rows)))
		if e != api.OK {
			t.Fatal(e)
		}
		for n := range s.w * s.h {
			u, v := (int64(n%s.w)<<32+1<<31)/int64(s.w), (int64(n/s.w)<<32+1<<31)/int64(s.h)
			part := func(i int) int64 { return int64(pix[4*n+i]) << 32 / 255 }
			mustSample(t, s.String(), x, u, v, api.Vec{X: part(0), Y: part(1), Z: part(2)})
		}
	}
}

// R3: what is sampled stays as it is; the bytes in its spare room are not read.
func TestSampleMemory(t *testing.T) {
	x := painted(7, 5)
	room := append(x.Pix, 1, 2, 3, 4)
	kept := slices.Clone(room)
	x.Pix = room[:len(room)-4]
	for n := range int64(100) {
		texture.Sample(x, n<<30, n<<29)
	}
	mustBe(t, "what was handed in", room, kept)
	x.Pix = room[:len(room)-8]
	mustSample(t, "four bytes in spare room", x, 0, 0, api.Vec{})
}
