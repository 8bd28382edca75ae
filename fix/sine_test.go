package fix_test

import (
	"math"
	"math/big"
	"testing"

	"lightwell/api"
	"lightwell/fix"
)

// clamp tells n, brought into -1 to 1.
func clamp(n int64) int64 {
	return min(max(n, -api.One), api.One)
}

// floor tells a divided by b, towards below.
func floor(a, b int64) int64 {
	return down(whole(a), whole(b)).Int64()
}

// wantSin is P1.3, word by word, over numbers without an end.
func wantSin(a int64) int64 {
	r := new(big.Int).Sub(whole(a), new(big.Int).Mul(whole(turn), down(whole(a), whole(turn)))).Int64()
	if r > half {
		r -= turn
	}
	if r > quarter {
		r = half - r
	} else if r < -quarter {
		r = -half - r
	}
	q := wantMul(r, r)
	s := api.One - floor(q, 72)
	for _, n := range []int64{42, 20, 6} {
		s = api.One - floor(wantMul(q, s), n)
	}
	return clamp(wantMul(r, s))
}

// angles are those about each quarter of many turns, and all the other numbers.
func angles() []int64 {
	l := numbers(3000)
	for k := int64(-9); k < 9; k++ {
		for _, p := range []int64{0, quarter, half, half + quarter} {
			for d := int64(-3); d <= 3; d++ {
				l = append(l, k*turn+p+d)
			}
		}
	}
	for k := range int64(500) {
		l = append(l, k*turn/500, -k*turn/500)
	}
	for d := range int64(3) { // where Cos's sum is brought in
		l = append(l, api.Most-quarter-1+d)
	}
	return l
}

// P1.3
func TestSinAtAngles(t *testing.T) {
	for _, p := range []struct{ a, sin, cos int64 }{
		{0, 0, api.One},
		{1, 1, api.One},
		{-1, -1, api.One},
		{quarter - 1, api.One, 1},
		{quarter, api.One, 0},
		{quarter + 1, api.One, 0},
		{half - 1, 1, -api.One},
		{half, 0, -api.One},
		{half + 1, 0, -api.One},
		{half + quarter - 1, -api.One, -2},
		{half + quarter, -api.One, -1},
		{half + quarter + 1, -api.One, 0},
		{half + quarter + 2, -api.One, 1},
		{turn - 1, -1, api.One},
		{turn, 0, api.One},
		{turn + 1, 1, api.One},
		{-quarter - 1, -api.One, -1},
		{-quarter, -api.One, 0},
		{-half, 0, -api.One},
		{-half - 1, 0, -api.One},
		{-turn, 0, api.One},
		{-turn - 1, -1, api.One},
		{quarter / 3, 2147483647, 3719550965},
		{quarter / 2, 3037000507, 3037000507},
		{api.One, 3614090468, 2320580733},
		{-api.One, -3614090468, 2320580733},
		{2 * api.One, 3905403168, -1787337053},
		{4 * api.One, -3250441987, -2807377979},
		{5 * api.One, -4118550054, 1218319809},
		{1000 * api.One, 3551420668, 2415399735},
		{api.Most, -4168142760, -4168142760},
		{api.Least, 4168142758, 1036026049},
		{api.Most - quarter, -1036026049, -4168142760},
	} {
		if s := fix.Sin(p.a); s != p.sin {
			t.Errorf("Sin(%d): %d, not %d", p.a, s, p.sin)
		}
		if c := fix.Cos(p.a); c != p.cos {
			t.Errorf("Cos(%d): %d, not %d", p.a, c, p.cos)
		}
	}
}

// P1.3
func TestSinIsAsWritten(t *testing.T) {
	for _, a := range angles() {
		if s, want := fix.Sin(a), wantSin(a); s != want {
			t.Fatalf("Sin(%d): %d, not %d", a, s, want)
		}
	}
}

// P1.3
func TestCosIsSinOfAQuarterMore(t *testing.T) {
	for _, a := range angles() {
		sum := bring(new(big.Int).Add(whole(a), whole(quarter)))
		if c, want := fix.Cos(a), wantSin(sum); c != want {
			t.Fatalf("Cos(%d): %d, not %d", a, c, want)
		}
	}
}

// P1.3
func TestSinStaysWithinOne(t *testing.T) {
	for _, a := range angles() {
		if s, c := fix.Sin(a), fix.Cos(a); s != clamp(s) || c != clamp(c) {
			t.Fatalf("at %d: Sin %d, Cos %d", a, s, c)
		}
	}
}

// P1.3: the sum that the chapter writes is the sine, but for some millionths.
func TestSinIsNearTheSine(t *testing.T) {
	for k := range int64(2000) {
		a := (k - 1000) * turn / 700
		got := float64(fix.Sin(a)) / float64(api.One)
		want := math.Sin(float64(a) / float64(api.One))
		if math.Abs(got-want) > 4e-6 {
			t.Fatalf("Sin(%d): %g, about %g", a, got, want)
		}
	}
}
