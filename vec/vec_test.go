package vec_test

import (
	"math/rand"
	"testing"

	"lightwell/api"
	"lightwell/fix"
	"lightwell/vec"
)

const (
	most  = api.Most
	least = api.Least
	one   = api.One
)

func raw(x, y, z int64) api.Vec { return api.Vec{X: x, Y: y, Z: z} }

func of(x, y, z int64) api.Vec { return api.Vec{X: x * one, Y: y * one, Z: z * one} }

// vectors are those of edges in all places, and drawn ones of all lengths.
func vectors() []api.Vec {
	edges := []int64{least, least + 1, -one - 1, -one, -1, 0, 1, one / 2, one, one + 1, 1 << 47, most - 1, most}
	var l []api.Vec
	for i := range edges {
		for j := range edges {
			l = append(l, raw(edges[i], edges[j], edges[(i+j)%len(edges)]))
		}
	}
	r := rand.New(rand.NewSource(2))
	draw := func(bits int) int64 { return int64(r.Uint64()) >> (64 - bits) }
	for bits := 2; bits <= 64; bits++ {
		for range 4 {
			l = append(l, raw(draw(bits), draw(bits), draw(bits)))
		}
	}
	return l
}

func same(t *testing.T, what string, got, want api.Vec) {
	t.Helper()
	if got != want {
		t.Errorf("%s: %v, want %v", what, got, want)
	}
}

func number(t *testing.T, what string, got, want int64) {
	t.Helper()
	if got != want {
		t.Errorf("%s: %d, want %d", what, got, want)
	}
}

// P2.1, P2.2: the chapter's examples.
func TestExamples(t *testing.T) {
	same(t, "Add", vec.Add(of(1, 2, 3), of(1, 1, 1)), of(2, 3, 4))
	number(t, "Dot", vec.Dot(of(1, 2, 3), of(4, 5, 6)), 32*one)
	same(t, "Cross", vec.Cross(of(1, 0, 0), of(0, 1, 0)), of(0, 0, 1))
	number(t, "Len", vec.Len(of(3, 4, 0)), 5*one)
	same(t, "Unit", vec.Unit(of(0, 0, 2)), of(0, 0, 1))
	same(t, "Unit of 0", vec.Unit(api.Vec{}), api.Vec{})
	same(t, "Bend", vec.Bend(of(1, -1, 0), of(0, 1, 0)), of(1, 1, 0))
}

// P2.1: ordinary vectors, with another number in each place.
func TestOrdinary(t *testing.T) {
	a, b := of(7, -11, 13), of(2, 3, -5)
	same(t, "Add", vec.Add(a, b), of(9, -8, 8))
	same(t, "Sub", vec.Sub(a, b), of(5, -14, 18))
	same(t, "Neg", vec.Neg(a), of(-7, 11, -13))
	same(t, "Scale", vec.Scale(a, 3*one), of(21, -33, 39))
	same(t, "Scale by a half", vec.Scale(of(4, -6, 8), one/2), of(2, -3, 4))
	same(t, "Mul", vec.Mul(a, b), of(14, -33, -65))
	number(t, "Dot", vec.Dot(a, b), -84*one)
	same(t, "Cross", vec.Cross(a, b), of(16, 61, 43))
	number(t, "Len", vec.Len(of(2, -3, 6)), 7*one)
	same(t, "Unit", vec.Unit(of(0, -4, 0)), of(0, -1, 0))
	same(t, "Bend", vec.Bend(of(2, -3, 5), of(0, 0, -1)), of(2, -3, -5))
}

// P2.1: each product is divided down by itself, before it is added or taken away.
func TestDown(t *testing.T) {
	same(t, "Scale", vec.Scale(raw(1, -1, 3), one/2), raw(0, -1, 1))
	same(t, "Mul", vec.Mul(raw(1, -1, -3), raw(one/2, one/2, one/2)), raw(0, -1, -2))
	number(t, "Dot of three small ones", vec.Dot(raw(1, 1, 1), raw(one/2, one/2, one/2)), 0)
	number(t, "Dot of three small ones below 0", vec.Dot(raw(-1, -1, -1), raw(1, 1, 1)), -3)
	same(t, "Cross", vec.Cross(raw(0, 1, 0), raw(0, 0, -1)), raw(-1, 0, 0))
	same(t, "Cross turned round", vec.Cross(raw(0, 0, -1), raw(0, 1, 0)), raw(1, 0, 0))
}

// P2.1: sums and products are brought in, each where it is reckoned.
func TestBroughtIn(t *testing.T) {
	same(t, "Add", vec.Add(raw(most, least, 1), raw(1, -1, most)), raw(most, least, most))
	same(t, "Sub", vec.Sub(raw(most, least, 0), raw(-1, 1, least)), raw(most, least, most))
	same(t, "Neg", vec.Neg(raw(least, most, least+1)), raw(most, -most, most))
	same(t, "Scale", vec.Scale(raw(most, least, one), 2*one), raw(most, least, 2*one))
	same(t, "Scale by the least", vec.Scale(of(2, -2, 1), least), raw(least, most, least))
	same(t, "Mul", vec.Mul(raw(most, least, least), raw(most, most, least)), raw(most, least, most))
	// What was brought in is not made up for: X and Y are added first.
	number(t, "Dot", vec.Dot(raw(most, most, most), of(1, 1, -1)), 0)
	number(t, "Dot, another order", vec.Dot(raw(most, most, most), of(1, -1, 1)), most)
	number(t, "Dot below", vec.Dot(raw(least, least, most), of(1, 1, 1)), -1)
	same(t, "Cross", vec.Cross(raw(0, most, 2*one), raw(0, most, most)), raw(0, 0, 0))
	same(t, "Cross at an end", vec.Cross(raw(most, 0, 0), raw(0, least, most)), raw(0, -most, least))
	number(t, "Len", vec.Len(raw(most, most, most)), fix.Sqrt(most))
	same(t, "Unit", vec.Unit(raw(most, 0, least)), raw(fix.Div(most, fix.Sqrt(most)), 0, fix.Div(least, fix.Sqrt(most))))
	// Twice what is along n is brought in ahead of the scaling.
	same(t, "Bend", vec.Bend(raw(0, most, 0), of(0, 1, 0)), raw(0, 0, 0))
	same(t, "Bend below", vec.Bend(raw(0, least, 3), of(0, 1, 0)), raw(0, 0, 3))
}

// P2.2: a vector has no length when its squares are divided down to nothing.
func TestNoLength(t *testing.T) {
	for _, a := range []api.Vec{{}, raw(1, 0, 0), raw(0, -1, 0), raw(1, -1, 1), raw(1<<16-1, 1-1<<16, 1<<16-1)} {
		number(t, "Len", vec.Len(a), 0)
		same(t, "Unit", vec.Unit(a), api.Vec{})
	}
	number(t, "the shortest", vec.Len(raw(0, 1<<16, 0)), 1<<16)
	same(t, "its way", vec.Unit(raw(0, -1<<16, 1)), raw(0, -one, 1<<16))
}

// P2.1, P2.2: all as it is told, call by call, on vectors of all lengths.
func TestAsTold(t *testing.T) {
	l := vectors()
	for i, a := range l {
		b := l[(i*37+5)%len(l)]
		s := b.Z
		same(t, "Add", vec.Add(a, b), raw(fix.Add(a.X, b.X), fix.Add(a.Y, b.Y), fix.Add(a.Z, b.Z)))
		same(t, "Sub", vec.Sub(a, b), raw(fix.Sub(a.X, b.X), fix.Sub(a.Y, b.Y), fix.Sub(a.Z, b.Z)))
		same(t, "Neg", vec.Neg(a), raw(fix.Neg(a.X), fix.Neg(a.Y), fix.Neg(a.Z)))
		same(t, "Scale", vec.Scale(a, s), raw(fix.Mul(a.X, s), fix.Mul(a.Y, s), fix.Mul(a.Z, s)))
		same(t, "Mul", vec.Mul(a, b), raw(fix.Mul(a.X, b.X), fix.Mul(a.Y, b.Y), fix.Mul(a.Z, b.Z)))
		along := dot(a, b)
		number(t, "Dot", vec.Dot(a, b), along)
		same(t, "Cross", vec.Cross(a, b), raw(
			fix.Sub(fix.Mul(a.Y, b.Z), fix.Mul(a.Z, b.Y)),
			fix.Sub(fix.Mul(a.Z, b.X), fix.Mul(a.X, b.Z)),
			fix.Sub(fix.Mul(a.X, b.Y), fix.Mul(a.Y, b.X))))
		long := fix.Sqrt(dot(a, a))
		number(t, "Len", vec.Len(a), long)
		unit := raw(fix.Div(a.X, long), fix.Div(a.Y, long), fix.Div(a.Z, long))
		if long == 0 {
			unit = api.Vec{}
		}
		same(t, "Unit", vec.Unit(a), unit)
		x := fix.Add(along, along)
		same(t, "Bend", vec.Bend(a, b), raw(
			fix.Sub(a.X, fix.Mul(b.X, x)), fix.Sub(a.Y, fix.Mul(b.Y, x)), fix.Sub(a.Z, fix.Mul(b.Z, x))))
	}
}

func dot(a, b api.Vec) int64 {
	return fix.Add(fix.Add(fix.Mul(a.X, b.X), fix.Mul(a.Y, b.Y)), fix.Mul(a.Z, b.Z))
}

// P2.3: what follows.
func TestWhatFollows(t *testing.T) {
	l := vectors()
	for i, a := range l {
		b := l[(i*53+11)%len(l)]
		same(t, "Add turned round", vec.Add(a, b), vec.Add(b, a))
		same(t, "Mul turned round", vec.Mul(a, b), vec.Mul(b, a))
		number(t, "Dot turned round", vec.Dot(a, b), vec.Dot(b, a))
		if vec.Len(a) < 0 {
			t.Errorf("Len(%v) is below 0", a)
		}
		if near(a) && near(b) {
			same(t, "Cross turned round", vec.Cross(a, b), vec.Neg(vec.Cross(b, a)))
		}
	}
}

// near tells whether a's products stay clear of the ends.
func near(a api.Vec) bool {
	for _, x := range []int64{a.X, a.Y, a.Z} {
		if x > 1<<46 || x < -1<<46 {
			return false
		}
	}
	return true
}
