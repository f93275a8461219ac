// Package bits writes unsigned integers as bytes, the lowest byte first, and reads them, by shifts.
package bits

import "slices"

const (
	maxWidth = 8  // bytes of the widest number
	size     = 64 // bits of the widest number
)

// integer is every type of integer there is.
type integer interface {
	~int | ~int8 | ~int16 | ~int32 | ~int64 | ~uint | ~uint8 | ~uint16 | ~uint32 | ~uint64 | ~uintptr
}

// shift moves the bits of n by that many places towards the highest bit, or towards the lowest one if by is below 0.
func shift[T integer](n T, by int) T {
	if by < 0 {
		// The negative of the least int is itself: as a count without sign it can't panic.
		return n >> uint(-by)
	}
	return n << uint(by)
}

// allowed tells whether a number may have that many bytes.
func allowed(width int) bool { return 1 <= width && width <= maxWidth }

// spare is the number of bits that a number of width bytes leaves unused.
func spare(width int) int { return size - 8*width }

// Put returns b followed by the lowest width bytes of n, the lowest first; b alone if width is not from 1 to 8.
func Put(b []byte, n uint64, width int) []byte {
	// A list of its own: what lies behind b, in memory that the caller may use, stays as it is.
	out := slices.Clone(b)
	if !allowed(width) {
		return out
	}
	for i := range width {
		out = append(out, byte(shift(n, -8*i)))
	}
	return out
}

// Num returns the number of width bytes that stands in b at index at; false if width is not from 1 to 8 or b does not have all of these bytes.
func Num(b []byte, at, width int) (uint64, bool) {
	// The sum of at and width might wrap round; the difference can't.
	if !allowed(width) || at < 0 || at > len(b)-width {
		return 0, false
	}
	var n uint64
	for i, x := range b[at : at+width] {
		n |= shift(uint64(x), 8*i)
	}
	return n, true
}

// Fits tells whether width bytes, from 1 to 8, can hold n.
func Fits(n uint64, width int) bool {
	return allowed(width) && shift(n, -8*width) == 0
}

// Signed returns what the lowest width bytes of n are in two's complement, or 0 if width is not from 1 to 8.
func Signed(n uint64, width int) int64 {
	if !allowed(width) {
		return 0
	}
	// The way back down has a sign, so it brings copies of the number's highest bit.
	high := int64(shift(n, spare(width)))
	return shift(high, -spare(width))
}

// Narrow returns n in two's complement in the lowest width bytes; false if width is not from 1 to 8 or n needs more of them.
func Narrow(n int64, width int) (uint64, bool) {
	if !allowed(width) {
		return 0, false
	}
	low := shift(shift(uint64(n), spare(width)), -spare(width))
	if Signed(low, width) != n {
		return 0, false
	}
	return low, true
}

// Turn returns n rotated by that many places, modulo 64, towards the highest bit.
func Turn(n uint64, by int) uint64 {
	// The lowest six bits are the number modulo 64 for numbers below 0 too, where % is not.
	left := by & (size - 1)
	return shift(n, left) | shift(n, left-size)
}
