// Package num is numbers in bytes: see DOC.md, chapter 1.
package num

import (
	"math/bits"

	"ropewalk/api"
)

const (
	most  = 1 << 40 // the greatest number that fits
	group = 7       // digits in a byte
	more  = 1 << group
	low   = more - 1
)

// Fits tells whether one may be.
func Fits(n int) bool { return n >= 0 && n <= most }

// Size is how many bytes.
func Size(n int) int {
	if !Fits(n) {
		return 0
	}
	digits := max(bits.Len(uint(n)), 1) // 0 has one digit, too
	return (digits + group - 1) / group
}

// Put writes one.
func Put(n int) []byte {
	if !Fits(n) {
		return nil
	}
	b := make([]byte, Size(n))
	last := len(b) - 1
	b[last] = byte(n & low)
	for i := last - 1; i >= 0; i-- {
		n >>= group
		b[i] = byte(n&low) | more
	}
	return b
}

// Get reads one.
func Get(b []byte) (n, used int, e api.Errno) {
	for i, c := range b {
		if i == 0 && c == more {
			goto bad // a group of noughts ahead: a shorter one says the same
		}
		n = n<<group | int(c&low)
		if !Fits(n) {
			goto bad // here, as later groups could only wrap n round
		}
		if c < more {
			used = i + 1
			goto whole
		}
	}
bad:
	return 0, 0, api.ErrBad
whole:
	return n, used, api.OK
}
