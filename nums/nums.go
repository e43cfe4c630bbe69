// Package nums is layer 1: see shared/doc/01-nums.md.
package nums

import (
	"strconv"

	"spence/api"
)

// mostBytes is how many bytes the numbers have that Put lays and Get reads, at most.
const mostBytes = 8

// Parse: P1.1.
func Parse(s string) (int, api.Errno) {
	if s == "" {
		return 0, api.ErrForm
	}
	n, errno := 0, api.OK
digits:
	for i := range len(s) {
		d := int(s[i]) - '0'
		switch {
		case !Fits(d, 0, 9):
			// This comes ahead of ErrOver, and no byte behind it can change it.
			n, errno = 0, api.ErrForm
			break digits
		case errno != api.OK:
			continue digits
		case n > (api.MaxNum-d)/10:
			// The rest is gone through none the less: a byte that is no digit would come first.
			n, errno = 0, api.ErrOver
		default:
			n = 10*n + d
		}
	}
	return n, errno
}

// Print: P1.1.
func Print(n int) string { return strconv.Itoa(n) }

// Add: P1.2.
func Add(a, b int) (int, api.Errno) {
	if !Fits(a, 0, api.MaxNum) || !Fits(b, 0, api.MaxNum) {
		return 0, api.ErrArg
	}
	if a > api.MaxNum-b {
		return 0, api.ErrOver
	}
	return a + b, api.OK
}

// Put: P1.3.
func Put(b []byte, n uint64, bytes int) []byte {
	bytes = min(max(bytes, 0), mostBytes)
	// Memory of its own: append could write behind the length of b.
	out := make([]byte, len(b)+bytes)
	copy(out, b)
	for i := len(out) - 1; i >= len(b); i-- {
		out[i] = byte(n)
		n >>= 8
	}
	return out
}

// Get: P1.3.
func Get(b []byte, at, bytes int) (uint64, bool) {
	// Once bytes fits, the room behind at is told by a difference that can't wrap round.
	if !Fits(bytes, 0, mostBytes) || !Fits(at, 0, len(b)-bytes) {
		return 0, false
	}
	n := uint64(0)
	for _, x := range b[at : at+bytes] {
		n = n<<8 | uint64(x)
	}
	return n, true
}

// Fits: P1.2.
func Fits(n, least, most int) bool { return least <= n && n <= most }
