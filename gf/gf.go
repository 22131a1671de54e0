// Package gf: a field of 256 elements; see doc/01-gf.md.
package gf

import "quickset/api"

const (
	count   = 256                           // elements of the field
	turn    = 255                           // elements but 0: the power of that many of any of them is 1
	base    = 2                             // its powers are all elements but 0
	divisor = 1<<8 | 1<<4 | 1<<3 | 1<<2 | 1 // of products: x^8 + x^4 + x^3 + x^2 + 1
)

// Add: the sum of a and b.
func Add(a, b int) (int, api.Errno) {
	if !elements(a, b) {
		return 0, api.ErrRange
	}
	return a ^ b, api.OK
}

// Mul: the product of a and b.
func Mul(a, b int) (int, api.Errno) {
	if !elements(a, b) {
		return 0, api.ErrRange
	}
	return product(a, b), api.OK
}

// Div: the element whose product with b is a.
func Div(a, b int) (int, api.Errno) {
	if !elements(a, b) {
		return 0, api.ErrRange
	}
	if b == 0 {
		return 0, api.ErrZero
	}
	return product(a, inverse(b)), api.OK
}

// Inv: the element whose product with a is 1.
func Inv(a int) (int, api.Errno) {
	return Div(1, a)
}

// Pow: the product of n times a; of none, it is 1.
func Pow(a, n int) (int, api.Errno) {
	if !elements(a) || n < 0 {
		return 0, api.ErrRange
	}
	return power(a, n), api.OK
}

// Exp: the product of n times 2.
func Exp(n int) (int, api.Errno) {
	return Pow(base, n)
}

// Log: the least n from 0 on whose Exp is a.
func Log(a int) (int, api.Errno) {
	if !elements(a) {
		return 0, api.ErrRange
	}
	if a == 0 {
		return 0, api.ErrZero
	}
	n := 0
	for p := 1; p != a; p = product(p, base) {
		n++
	}
	return n, api.OK
}

// elements: are all these numbers elements?
func elements(l ...int) bool {
	for _, a := range l {
		if a < 0 || a >= count {
			return false
		}
	}
	return true
}

// product: of two elements. What a grows beyond an element is taken off at each step, so that nothing is left to divide at the end.
func product(a, b int) int {
	p := 0
	for ; b > 0; b >>= 1 {
		if b&1 == 1 {
			p ^= a
		}
		a <<= 1
		if a >= count {
			a ^= divisor
		}
	}
	return p
}

// power: by squares, so that a great n takes no more steps than it has bits.
func power(a, n int) int {
	p := 1
	for ; n > 0; n >>= 1 {
		if n&1 == 1 {
			p = product(p, a)
		}
		a = product(a, a)
	}
	return p
}

// inverse: of an element but 0. Its power of turn is 1, so the power ahead of that undoes it.
func inverse(a int) int {
	return power(a, turn-1)
}
