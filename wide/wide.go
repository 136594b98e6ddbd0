// Package wide is layer 1: products and quotients of 128 bits. See shared/doc/01-wide.md.
package wide

import (
	"math/bits"

	"isobar/api"
)

// Mul: a product, whole: 128 bits hold any.
func Mul(x, y uint64) api.Wide {
	hi, lo := bits.Mul64(x, y)
	return api.Wide{Hi: hi, Lo: lo}
}

// Add: a sum, but for 2^128, and whether it comes to that.
func Add(a, b api.Wide) (api.Wide, bool) {
	lo, carry := bits.Add64(a.Lo, b.Lo, 0)
	hi, over := bits.Add64(a.Hi, b.Hi, carry)
	return api.Wide{Hi: hi, Lo: lo}, over != 0
}

// Less: is a's value below b's?
func Less(a, b api.Wide) bool {
	if a.Hi != b.Hi {
		return a.Hi < b.Hi
	}
	return a.Lo < b.Lo
}

// Div: how often d is in a, and what is left.
func Div(a api.Wide, d uint64) (q api.Wide, r uint64, e api.Errno) {
	if d == 0 {
		return api.Wide{}, 0, api.ErrArg
	}
	// Two steps, as on paper: what the upper half leaves is below d, so that the lower quotient has 64 bits.
	hi, left := a.Hi/d, a.Hi%d
	lo, r := bits.Div64(left, a.Lo, d)
	return api.Wide{Hi: hi, Lo: lo}, r, api.OK
}

// Round: a quotient, to the nearest number, a half upwards.
func Round(a api.Wide, d uint64) (uint64, api.Errno) {
	q, r, e := Div(a, d)
	if e != api.OK {
		return 0, e
	}
	// Twice r may be beyond 64 bits; d - r never is, since r is below d.
	if r >= d-r {
		// No quotient that leaves a rest is 2^128 - 1, so nothing is carried off.
		q, _ = Add(q, api.Wide{Lo: 1})
	}
	if q.Hi != 0 {
		return 0, api.ErrRange
	}
	return q.Lo, api.OK
}

// Root: the greatest number whose square isn't more than a.
func Root(a api.Wide) uint64 {
	var root uint64
	// From the highest bit down a bit belongs to the root just if the square stays within a.
	for bit := uint64(1) << 63; bit != 0; bit >>= 1 {
		try := root | bit
		if !Less(a, Mul(try, try)) {
			root = try
		}
	}
	return root
}

// Shift: times a power of two, but for what lies at 2^128 and above, and whether nothing lay there.
func Shift(a api.Wide, n int) (api.Wide, bool) {
	if n < 0 || n > 127 {
		return a, false
	}
	if n >= 64 {
		lost := a.Hi | a.Lo>>(128-n)
		return api.Wide{Hi: a.Lo << (n - 64)}, lost == 0
	}
	lost := a.Hi >> (64 - n)
	return api.Wide{Hi: a.Hi<<n | a.Lo>>(64-n), Lo: a.Lo << n}, lost == 0
}
