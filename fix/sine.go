package fix

import "lightwell/api"

// The parts of a circle, as numbers.
const (
	turn    int64 = 26986075409
	half    int64 = 13493037704
	quarter int64 = 6746518852
)

// Sin tells the sine of a.
func Sin(a int64) int64 {
	r := fold(a)
	q := Mul(r, r)
	// All of these are 0 or more, so that / divides down.
	s := api.One - q/72
	s = api.One - Mul(q, s)/42
	s = api.One - Mul(q, s)/20
	s = api.One - Mul(q, s)/6
	// The sum is of few parts: near a quarter it is a little above 1.
	return min(max(Mul(r, s), -api.One), api.One)
}

// Cos tells the cosine of a.
func Cos(a int64) int64 {
	return Sin(Add(a, quarter))
}

// fold brings a to the angle of the same sine between minus a quarter and a quarter.
func fold(a int64) int64 {
	r := a % turn
	if r < 0 {
		r += turn
	}
	if r > half {
		r -= turn
	}
	switch {
	case r > quarter:
		return half - r
	case r < -quarter:
		return -half - r
	default:
		return r
	}
}
