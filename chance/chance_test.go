package chance_test

import (
	"math"
	"math/big"
	"math/rand"
	"testing"

	"lightwell/api"
	"lightwell/chance"
)

const golden = 11400714819323198485

// numbers are those of edges, each power of 2 with its neighbours, and drawn ones.
func numbers() []uint64 {
	l := []uint64{0, 1, 2, 3, math.MaxInt64 - 1, math.MaxInt64, 1 << 63, 1<<63 + 1, math.MaxUint64 - 1, math.MaxUint64, golden, golden - 1, golden + 1}
	for k := range 64 {
		p := uint64(1) << k
		l = append(l, p-1, p, p+1, -p)
	}
	r := rand.New(rand.NewSource(3))
	for range 500 {
		l = append(l, r.Uint64()>>r.Intn(64))
	}
	return l
}

// places are numbers that may stand for pixel, sample and dim: those below 0, too.
func places() []int {
	l := []int{math.MinInt, math.MinInt + 1, -1 << 32, -2, -1, 0, 1, 2, 3, 63, 1024, 1<<20 - 1, 1 << 32, math.MaxInt - 1, math.MaxInt}
	r := rand.New(rand.NewSource(4))
	for range 5 {
		l = append(l, int(r.Uint64()))
	}
	return l
}

var all = new(big.Int).Lsh(big.NewInt(1), 64)

func big64(x uint64) *big.Int { return new(big.Int).SetUint64(x) }

// step is x xor x / 2^k, times m, modulo 2^64, with numbers that have no end.
func step(x *big.Int, k uint, m string) *big.Int {
	by, _ := new(big.Int).SetString(m, 10)
	power := new(big.Int).Lsh(big.NewInt(1), k)
	x = new(big.Int).Xor(x, new(big.Int).Div(x, power))
	return x.Mod(x.Mul(x, by), all)
}

// mixTold is Mix as P3.1 tells it.
func mixTold(x *big.Int) *big.Int {
	x = step(x, 30, "13787848793156543929")
	x = step(x, 27, "10723151780598845931")
	return step(x, 31, "1")
}

// drawTold is Draw as P3.2 tells it.
func drawTold(seed uint64, pixel, sample, dim int) int64 {
	put := func(a, b *big.Int) *big.Int {
		a = new(big.Int).Add(a, b)
		a.Add(a, big64(golden))
		return a.Mod(a, all)
	}
	x := mixTold(put(big64(0), big64(seed)))
	for _, n := range []int{pixel, sample, dim} {
		x = mixTold(put(x, big.NewInt(int64(n))))
	}
	return x.Div(x, big.NewInt(1<<32)).Int64()
}

// P3.1, P3.2: the chapter's examples.
func TestExamples(t *testing.T) {
	if x := chance.Mix(0); x != 0 {
		t.Errorf("Mix(0) = %d", x)
	}
	if x := chance.Mix(1); x != 6238072747940578789 {
		t.Errorf("Mix(1) = %d", x)
	}
	for _, seed := range numbers() {
		for _, p := range places() {
			if chance.Draw(seed, p, p, p) != chance.Draw(seed, p, p, p) {
				t.Errorf("Draw(%d, %d, %d, %d) is not the same twice", seed, p, p, p)
			}
		}
	}
}

// P3.1: the five numbers that are known of this way of mixing, from 1234567 on.
func TestMixKnown(t *testing.T) {
	known := []uint64{6457827717110365317, 3203168211198807973, 9817491932198370423, 4593380528125082431, 16408922859458223821}
	x := uint64(1234567)
	for i, want := range known {
		x += golden
		if got := chance.Mix(x); got != want {
			t.Errorf("number %d: %d, want %d", i, got, want)
		}
	}
}

// P3.1: Mix is what the steps tell, modulo 2^64, at edges and at drawn numbers.
func TestMixAsTold(t *testing.T) {
	for _, x := range numbers() {
		if got, want := chance.Mix(x), mixTold(big64(x)).Uint64(); got != want {
			t.Errorf("Mix(%d) = %d, want %d", x, got, want)
		}
	}
}

// P3.2: Draw is what the mixing of each number behind the other tells, numbers below 0 being those modulo 2^64.
func TestDrawAsTold(t *testing.T) {
	check := func(seed uint64, p, s, d int) {
		if got, want := chance.Draw(seed, p, s, d), drawTold(seed, p, s, d); got != want {
			t.Errorf("Draw(%d, %d, %d, %d) = %d, want %d", seed, p, s, d, got, want)
		}
	}
	for _, p := range places() {
		for _, s := range places() {
			for _, d := range []int{0, 1, -1, p, s, math.MinInt, math.MaxInt} {
				check(7, p, s, d)
			}
			check(math.MaxUint64, p, 0, s)
		}
	}
	for _, seed := range numbers() {
		check(seed, 0, 0, 0)
		check(seed, -1, 5, math.MinInt)
	}
}

// P3.2: draws that were worked out beside the program, with numbers that have no end.
func TestDrawKnown(t *testing.T) {
	for _, c := range []struct {
		seed    uint64
		p, s, d int
		want    int64
	}{
		{0, 0, 0, 0, 556823690},
		{1, 2, 3, 4, 862728789},
		{7, 1024*1024 - 1, 63, 40, 2709627793},
		{3, -1, -2, -3, 4042116988},
		{math.MaxUint64, math.MaxInt, math.MaxInt, math.MaxInt, 4135878982},
		{1 << 63, math.MinInt, math.MinInt, math.MinInt, 2369287946},
		{0, -1, 0, 0, 3519031046},
		{golden, 0, 1, -1, 2444097311},
	} {
		if got := chance.Draw(c.seed, c.p, c.s, c.d); got != c.want {
			t.Errorf("Draw(%d, %d, %d, %d) = %d, want %d", c.seed, c.p, c.s, c.d, got, c.want)
		}
	}
}

// P3.3: a draw is from 0 on and below 1, whatever it is asked for.
func TestDrawBelowOne(t *testing.T) {
	check := func(seed uint64, p, s, d int) {
		if x := chance.Draw(seed, p, s, d); x < 0 || x >= api.One {
			t.Errorf("Draw(%d, %d, %d, %d) = %d", seed, p, s, d, x)
		}
	}
	for _, seed := range numbers() {
		for _, p := range places() {
			check(seed, p, 1, 2)
			check(seed, 3, p, -p)
		}
	}
}

// back takes a step back: x is z xor z / 2^k.
func back(x uint64, k int) uint64 {
	z := x
	for range 64 / k {
		z = x ^ z>>k
	}
	return z
}

// inverse is what times m is 1, modulo 2^64.
func inverse(m uint64) uint64 {
	i := m
	for range 6 {
		i *= 2 - m*i
	}
	return i
}

// unmix takes Mix back.
func unmix(x uint64) uint64 {
	x = back(x, 31) * inverse(10723151780598845931)
	x = back(x, 27) * inverse(13787848793156543929)
	return back(x, 30)
}

// P3.3: what was mixed can be told from its Mix, both ways round: no two numbers have one.
func TestMixTellsTwo(t *testing.T) {
	for _, x := range numbers() {
		if got := unmix(chance.Mix(x)); got != x {
			t.Errorf("Mix(%d) is that of %d", x, got)
		}
		if got := chance.Mix(unmix(x)); got != x {
			t.Errorf("Mix(%d) = %d, want %d", unmix(x), got, x)
		}
	}
	seen := map[uint64]uint64{}
	for x := range uint64(1 << 16) {
		m := chance.Mix(x)
		if y, ok := seen[m]; ok {
			t.Fatalf("%d and %d have one Mix", x, y)
		}
		seen[m] = x
	}
}

// P3.2, P3.3: each of the four numbers is told in a draw, and in which place it stands.
func TestDrawPlaces(t *testing.T) {
	base := chance.Draw(1, 2, 3, 4)
	for _, x := range []int64{
		chance.Draw(2, 2, 3, 4), chance.Draw(1, 3, 3, 4), chance.Draw(1, 2, 4, 4), chance.Draw(1, 2, 3, 5),
		chance.Draw(2, 1, 3, 4), chance.Draw(1, 3, 2, 4), chance.Draw(1, 2, 4, 3), chance.Draw(1, 4, 3, 2),
		chance.Draw(1, -2, 3, 4), chance.Draw(1, 2, -3, 4), chance.Draw(1, 2, 3, -4),
	} {
		if x == base {
			t.Errorf("%d is drawn for another place, too", x)
		}
	}
}
