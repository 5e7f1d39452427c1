// Package bits is layer 1: numbers as bits, the lowest first, and counts that do not grow beyond a greatest one.
package bits

import "osier/api"

// Width is how many bits the numbers below n need.
func Width(n int) (int, api.Errno) {
	if n < 1 || n > api.MaxSat {
		return 0, api.ErrArg
	}
	// The least width is how many powers of two are below n.
	width := 0
	for i := range api.MaxWidth {
		if 1<<i < n {
			width++
		}
	}
	return width, api.OK
}

// Put is a number as so many bits, the lowest first.
func Put(n, width int) ([]bool, api.Errno) {
	if width < 0 || width > api.MaxWidth || n < 0 || n >= 1<<width {
		return nil, api.ErrArg
	}
	l := make([]bool, width)
	for i := range width {
		l[i] = n>>i&1 == 1
	}
	return l, api.OK
}

// Get is the number of bits, the lowest first.
func Get(l []bool) (int, api.Errno) {
	if len(l) > api.MaxWidth {
		return 0, api.ErrArg
	}
	n := 0
	for i := range len(l) {
		if l[i] {
			n |= 1 << i
		}
	}
	return n, api.OK
}

// Add is the sum of two counts, or the greatest count.
func Add(a, b int) int {
	// Two counts, each below 2^62, do not wrap round in 63 bits.
	return count(count(a) + count(b))
}

// Mul is the product of two counts, or the greatest count.
func Mul(a, b int) int {
	a, b = count(a), count(b)
	// Asked by division, since the product itself may wrap round.
	if b > 0 && a > api.MaxSat/b {
		return api.MaxSat
	}
	return a * b
}

// Pow is a power of two, or the greatest count.
func Pow(n int) int {
	if n < 0 {
		return 1
	}
	if n >= api.MaxWidth {
		return api.MaxSat
	}
	return 1 << n
}

// count is a number as a count: neither below 0 nor above the greatest one.
func count(n int) int {
	return min(max(n, 0), api.MaxSat)
}
