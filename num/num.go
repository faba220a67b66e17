// Package num is numbers that do not run over: see DOC.md, chapter 1.
package num

import (
	"mizzen/api"
)

const (
	// halfDigits is half the binary digits of api.MaxTime: products are made of halves.
	halfDigits = 25
	half       = 1 << halfDigits
	// fixDigits is how many binary digits a Fix has behind its point.
	fixDigits = 16
	// mostWhole is the greatest whole number whose Fix does not pass api.MaxTime.
	mostWhole = api.MaxTime >> fixDigits
)

// Int is any kind of whole number.
type Int interface {
	~int | ~int32 | ~int64 | ~uint32 | ~uint64
}

// Min is the least.
func Min[T Int](a T, more ...T) T {
	least := a
	for _, v := range more {
		if v < least {
			least = v
		}
	}
	return least
}

// Max is the greatest.
func Max[T Int](a T, more ...T) T {
	greatest := a
	for _, v := range more {
		if v > greatest {
			greatest = v
		}
	}
	return greatest
}

// Clamp holds v within low and high. Low goes first: it is told even if it is above high.
func Clamp[T Int](v, low, high T) T {
	if v < low {
		return low
	}
	if v > high {
		return high
	}
	return v
}

// held is the nearest number to n that may be.
func held(n int) int {
	return Clamp(n, 0, api.MaxTime)
}

// Add adds.
func Add(a, b int) int {
	return held(held(a) + held(b))
}

// Sub takes off.
func Sub(a, b int) int {
	return held(held(a) - held(b))
}

// product is a times b, told as upper times 2^50, and lower, which is below 2^50.
// Both a and b are within 0 to api.MaxTime, so that nothing here reaches 2^51.
func product(a, b int) (upper, lower int) {
	aUpper, aLower := a/half, a%half
	bUpper, bLower := b/half, b%half
	middle := aUpper*bLower + aLower*bUpper
	lower = aLower*bLower + middle%half*half
	upper = aUpper*bUpper + middle/half + lower/(half*half)
	return upper, lower % (half * half)
}

// Mul multiplies.
func Mul(a, b int) int {
	upper, lower := product(held(a), held(b))
	if upper > 0 {
		return api.MaxTime
	}
	return lower
}

// Div divides.
func Div(a, b int) (int, api.Errno) {
	if b < 1 {
		return 0, api.ErrArg
	}
	return held(a) / b, api.OK
}

// Fix has 16 binary digits behind the point.
type Fix int

// Of is a whole one.
func Of(n int) Fix {
	return Fix(Clamp(n, 0, mostWhole) << fixDigits)
}

// Part is a over b.
func Part(a, b int) (Fix, api.Errno) {
	if a < 0 || b <= 0 || a > mostWhole {
		return 0, api.ErrArg
	}
	return Fix((a << fixDigits) / b), api.OK
}

// fixed is a times b, each held, of which one at least is a Fix: one point's digits are cut off.
func fixed(a, b int) int {
	upper, lower := product(held(a), held(b))
	// Asked ahead of the shift: a greater upper would run over in it.
	if upper >= 1<<fixDigits {
		return api.MaxTime
	}
	return upper<<(2*halfDigits-fixDigits) + lower>>fixDigits
}

// Times is so much of n.
func (f Fix) Times(n int) int {
	return fixed(int(f), n)
}

// Plus adds.
func (f Fix) Plus(g Fix) Fix {
	return Fix(Add(int(f), int(g)))
}

// By multiplies.
func (f Fix) By(g Fix) Fix {
	return Fix(fixed(int(f), int(g)))
}

// Int is the whole part.
func (f Fix) Int() int {
	return held(int(f)) >> fixDigits
}
