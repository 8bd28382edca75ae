package fix_test

import (
	"math/big"
	"math/rand"
	"testing"

	"lightwell/api"
	"lightwell/fix"
)

const (
	turn    int64 = 26986075409
	half    int64 = 13493037704
	quarter int64 = 6746518852
)

// edges are the numbers where signs, rests and ends change.
func edges() []int64 {
	l := []int64{api.Least, api.Least + 1, api.Least + 2, api.Least / 2, api.Least/2 - 1, -3, -2, -1, 0, 1, 2, 3, api.Most / 2, api.Most/2 + 1, api.Most - 1, api.Most}
	for k := 15; k < 63; k += 4 {
		p := int64(1) << k
		l = append(l, p-1, p, p+1, 1-p, -p, -p-1)
	}
	for _, p := range []int64{api.One / 2, api.One, 3 * api.One, turn, half, quarter, 1 << 48} {
		l = append(l, p-1, p, p+1, 1-p, -p, -p-1)
	}
	return l
}

// numbers are the edges, and drawn ones of all lengths.
func numbers(n int) []int64 {
	r := rand.New(rand.NewSource(1))
	l := edges()
	for range n {
		l = append(l, int64(r.Uint64())>>r.Intn(64))
	}
	return l
}

func whole(n int64) *big.Int { return big.NewInt(n) }

// points tells n times 2^32.
func points(n int64) *big.Int { return new(big.Int).Lsh(whole(n), 32) }

// down tells a divided by b, towards below.
func down(a, b *big.Int) *big.Int {
	q, r := new(big.Int).QuoRem(a, b, new(big.Int))
	if r.Sign() != 0 && r.Sign() != b.Sign() {
		q.Sub(q, whole(1))
	}
	return q
}

// bring brings n in.
func bring(n *big.Int) int64 {
	switch {
	case n.Cmp(whole(api.Least)) < 0:
		return api.Least
	case n.Cmp(whole(api.Most)) > 0:
		return api.Most
	}
	return n.Int64()
}

func wantMul(a, b int64) int64 {
	return bring(down(new(big.Int).Mul(whole(a), whole(b)), points(1)))
}

func wantDiv(a, b int64) int64 {
	switch {
	case b != 0:
		return bring(down(points(a), whole(b)))
	case a > 0:
		return api.Most
	case a < 0:
		return api.Least
	}
	return 0
}

type pair struct {
	what      string
	got, want int64
}

func check(t *testing.T, l []pair) {
	t.Helper()
	for _, p := range l {
		if p.got != p.want {
			t.Errorf("%s: %d, not %d", p.what, p.got, p.want)
		}
	}
}

func TestExamples(t *testing.T) {
	one := api.One
	check(t, []pair{
		{"Of(3)", fix.Of(3), 3 << 32},
		{"Of(2^40)", fix.Of(1 << 40), api.Most},
		{"Floor(-1)", int64(fix.Floor(-1)), -1},
		{"Add(Most, 1)", fix.Add(api.Most, 1), api.Most},
		{"Neg(Least)", fix.Neg(api.Least), api.Most},
		{"Mul of 1.5 and -0.5", fix.Mul(one+one/2, -one/2), -one / 4 * 3},
		{"Mul(1, 1)", fix.Mul(1, 1), 0},
		{"Mul(-1, 1)", fix.Mul(-1, 1), -1},
		{"Div of 1 and 2", fix.Div(one, 2*one), one / 2},
		{"Div(-1, 3)", fix.Div(-1, 3*one), -1},
		{"Div(5, 0)", fix.Div(5, 0), api.Most},
		{"Div(0, 0)", fix.Div(0, 0), 0},
		{"Sqrt(Of(2))", fix.Sqrt(fix.Of(2)), 6074000999},
		{"Sqrt(Of(9))", fix.Sqrt(fix.Of(9)), fix.Of(3)},
		{"Sqrt(-4)", fix.Sqrt(-4), 0},
		{"Sin(0)", fix.Sin(0), 0},
	})
}

// P1.1
func TestOf(t *testing.T) {
	check(t, []pair{
		{"Of(0)", fix.Of(0), 0},
		{"Of(-1)", fix.Of(-1), -1 << 32},
		{"Of(2^31-1)", fix.Of(1<<31 - 1), (1<<31 - 1) << 32},
		{"Of(2^31)", fix.Of(1 << 31), api.Most},
		{"Of(2^32)", fix.Of(1 << 32), api.Most},
		{"Of(-2^31)", fix.Of(-1 << 31), api.Least},
		{"Of(-2^31+1)", fix.Of(-1<<31 + 1), (-1<<31 + 1) << 32},
		{"Of(-2^31-1)", fix.Of(-1<<31 - 1), api.Least},
		{"Of(-2^32)", fix.Of(-1 << 32), api.Least},
		{"Of(Most)", fix.Of(int(api.Most)), api.Most},
		{"Of(Least)", fix.Of(int(api.Least)), api.Least},
	})
	for _, n := range numbers(2000) {
		if got, want := fix.Of(int(n)), bring(points(n)); got != want {
			t.Errorf("Of(%d): %d, not %d", n, got, want)
		}
	}
}

// P1.1
func TestFloor(t *testing.T) {
	check(t, []pair{
		{"Floor(0)", int64(fix.Floor(0)), 0},
		{"Floor of 1 less a bit", int64(fix.Floor(api.One - 1)), 0},
		{"Floor of 1", int64(fix.Floor(api.One)), 1},
		{"Floor of -1", int64(fix.Floor(-api.One)), -1},
		{"Floor of -1 less a bit", int64(fix.Floor(-api.One - 1)), -2},
		{"Floor(Most)", int64(fix.Floor(api.Most)), 1<<31 - 1},
		{"Floor(Least)", int64(fix.Floor(api.Least)), -1 << 31},
	})
	for _, x := range numbers(2000) {
		if got, want := int64(fix.Floor(x)), bring(down(whole(x), points(1))); got != want {
			t.Errorf("Floor(%d): %d, not %d", x, got, want)
		}
	}
}

// P1.1
func TestSums(t *testing.T) {
	check(t, []pair{
		{"Add(2, 3)", fix.Add(2, 3), 5},
		{"Add(Least, -1)", fix.Add(api.Least, -1), api.Least},
		{"Add(Most, Least)", fix.Add(api.Most, api.Least), -1},
		{"Add(Least, Least)", fix.Add(api.Least, api.Least), api.Least},
		{"Sub(2, 3)", fix.Sub(2, 3), -1},
		{"Sub(0, Least)", fix.Sub(0, api.Least), api.Most},
		{"Sub(-1, Least)", fix.Sub(-1, api.Least), api.Most},
		{"Sub(Least, Least)", fix.Sub(api.Least, api.Least), 0},
		{"Sub(Least, 1)", fix.Sub(api.Least, 1), api.Least},
		{"Sub(-2, Most)", fix.Sub(-2, api.Most), api.Least},
		{"Neg(0)", fix.Neg(0), 0},
		{"Neg(7)", fix.Neg(7), -7},
		{"Neg(Most)", fix.Neg(api.Most), -api.Most},
		{"Neg(Least+1)", fix.Neg(api.Least + 1), api.Most},
	})
	l := numbers(200)
	for _, a := range l {
		if got, want := fix.Neg(a), bring(new(big.Int).Neg(whole(a))); got != want {
			t.Fatalf("Neg(%d): %d, not %d", a, got, want)
		}
		for _, b := range l {
			if got, want := fix.Add(a, b), bring(new(big.Int).Add(whole(a), whole(b))); got != want {
				t.Fatalf("Add(%d, %d): %d, not %d", a, b, got, want)
			}
			if got, want := fix.Sub(a, b), bring(new(big.Int).Sub(whole(a), whole(b))); got != want {
				t.Fatalf("Sub(%d, %d): %d, not %d", a, b, got, want)
			}
		}
	}
}

// P1.1
func TestMul(t *testing.T) {
	one := api.One
	check(t, []pair{
		{"Mul of 2 and 3", fix.Mul(2*one, 3*one), 6 * one},
		{"Mul(0, -1)", fix.Mul(0, -1), 0},
		{"Mul(-1, 0)", fix.Mul(-1, 0), 0},
		{"Mul(-1, -1)", fix.Mul(-1, -1), 0},
		{"Mul(-1, One)", fix.Mul(-1, one), -1},
		{"Mul(Most, One)", fix.Mul(api.Most, one), api.Most},
		{"Mul(Least, One)", fix.Mul(api.Least, one), api.Least},
		{"Mul(Least, -One)", fix.Mul(api.Least, -one), api.Most},
		{"Mul(Least, One+1)", fix.Mul(api.Least, one+1), api.Least},
		{"Mul(Most, -One)", fix.Mul(api.Most, -one), -api.Most},
		{"Mul(Most, -One-1)", fix.Mul(api.Most, -one-1), api.Least},
		{"Mul(Least, Least)", fix.Mul(api.Least, api.Least), api.Most},
		{"Mul(Most, Least)", fix.Mul(api.Most, api.Least), api.Least},
		{"Mul(2^47, 2^48)", fix.Mul(1<<47, 1<<48), api.Most},
		{"Mul(2^47, -2^48)", fix.Mul(1<<47, -1<<48), api.Least},
	})
	l := numbers(400)
	for _, a := range l {
		for _, b := range l {
			if got, want := fix.Mul(a, b), wantMul(a, b); got != want {
				t.Fatalf("Mul(%d, %d): %d, not %d", a, b, got, want)
			}
		}
	}
}

// P1.2
func TestDiv(t *testing.T) {
	one := api.One
	check(t, []pair{
		{"Div of 6 and 3", fix.Div(6*one, 3*one), 2 * one},
		{"Div(1, 0)", fix.Div(1, 0), api.Most},
		{"Div(-1, 0)", fix.Div(-1, 0), api.Least},
		{"Div(Most, 0)", fix.Div(api.Most, 0), api.Most},
		{"Div(Least, 0)", fix.Div(api.Least, 0), api.Least},
		{"Div(0, -5)", fix.Div(0, -5), 0},
		{"Div(1, 3 One)", fix.Div(1, 3*one), 0},
		{"Div(1, -3 One)", fix.Div(1, -3*one), -1},
		{"Div(-1, -3 One)", fix.Div(-1, -3*one), 0},
		{"Div(-4 One, 3 One)", fix.Div(-4*one, 3*one), -5726623062},
		{"Div(Most, One)", fix.Div(api.Most, one), api.Most},
		{"Div(Least, One)", fix.Div(api.Least, one), api.Least},
		{"Div(Least, -One)", fix.Div(api.Least, -one), api.Most},
		{"Div(Most, -One)", fix.Div(api.Most, -one), -api.Most},
		{"Div(Most, 1)", fix.Div(api.Most, 1), api.Most},
		{"Div(Most, -1)", fix.Div(api.Most, -1), api.Least},
		{"Div(Least, 1)", fix.Div(api.Least, 1), api.Least},
		{"Div(Least, Least)", fix.Div(api.Least, api.Least), one},
		{"Div(2^31, 1)", fix.Div(1<<31, 1), api.Most},
		{"Div(-2^31, 1)", fix.Div(-1<<31, 1), api.Least},
		{"Div(2^31-1, 1)", fix.Div(1<<31-1, 1), (1<<31 - 1) << 32},
	})
	l := numbers(400)
	for _, a := range l {
		for _, b := range l {
			if got, want := fix.Div(a, b), wantDiv(a, b); got != want {
				t.Fatalf("Div(%d, %d): %d, not %d", a, b, got, want)
			}
		}
	}
}

// P1.2
func TestSqrt(t *testing.T) {
	one := api.One
	check(t, []pair{
		{"Sqrt(0)", fix.Sqrt(0), 0},
		{"Sqrt(-1)", fix.Sqrt(-1), 0},
		{"Sqrt(Least)", fix.Sqrt(api.Least), 0},
		{"Sqrt(1)", fix.Sqrt(1), 1 << 16},
		{"Sqrt(2)", fix.Sqrt(2), 92681},
		{"Sqrt of a quarter", fix.Sqrt(one / 4), one / 2},
		{"Sqrt(One)", fix.Sqrt(one), one},
		{"Sqrt(One-1)", fix.Sqrt(one - 1), one - 1},
		{"Sqrt(Of(2^30))", fix.Sqrt(fix.Of(1 << 30)), fix.Of(1 << 15)},
		{"Sqrt(Most)", fix.Sqrt(api.Most), 199032864766430},
	})
	l := numbers(5000)
	for k := range int64(3000) { // squares, and what is about them
		r := (k*k + 1) << 23
		s := fix.Mul(r, r)
		l = append(l, k, s-1, s, s+1)
	}
	for _, a := range l {
		want := int64(0)
		if a > 0 {
			want = new(big.Int).Sqrt(points(a)).Int64()
		}
		if got := fix.Sqrt(a); got != want {
			t.Fatalf("Sqrt(%d): %d, not %d", a, got, want)
		}
	}
}

// P1.4
func TestOrderOfTwo(t *testing.T) {
	l := numbers(200)
	for _, a := range l {
		for _, b := range l {
			if fix.Add(a, b) != fix.Add(b, a) {
				t.Fatalf("Add of %d and %d hangs on their order", a, b)
			}
			if fix.Mul(a, b) != fix.Mul(b, a) {
				t.Fatalf("Mul of %d and %d hangs on their order", a, b)
			}
		}
	}
}

// P1.4
func TestGreaterStaysGreater(t *testing.T) {
	l := numbers(40)
	for _, a := range l {
		for _, b := range l {
			if a > b {
				continue
			}
			for _, c := range l {
				if fix.Add(a, c) > fix.Add(b, c) {
					t.Fatalf("Add of %d turns %d and %d round", c, a, b)
				}
				if c >= 0 && fix.Mul(a, c) > fix.Mul(b, c) {
					t.Fatalf("Mul by %d turns %d and %d round", c, a, b)
				}
				if c > 0 && fix.Div(a, c) > fix.Div(b, c) {
					t.Fatalf("Div by %d turns %d and %d round", c, a, b)
				}
			}
		}
	}
}

// P1.4
func TestFloorOfOf(t *testing.T) {
	l := []int{-1 << 31, 1 - 1<<31, -1, 0, 1, 1<<31 - 1}
	for _, n := range numbers(2000) {
		l = append(l, int(int32(n)))
	}
	for _, n := range l {
		if got := fix.Floor(fix.Of(n)); got != n {
			t.Errorf("Floor of Of(%d): %d", n, got)
		}
	}
}
