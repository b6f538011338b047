// Package keys is layer 1: keys, their order, and their slices of eight bytes.
package keys

import (
	"strings"

	"marshalling/api"
)

const (
	// width is how many bytes a slice holds at most.
	width = 8
	// more is the class of a slice behind which the text goes on.
	more = width + 1
)

// Compare is -1, if a is less than b, 1, if b is less than a, else 0.
func Compare(a, b string) int { return strings.Compare(a, b) }

// Common is how many bytes a and b have alike from the beginning on.
func Common(a, b string) int {
	short := min(len(a), len(b))
	for i := range short {
		if a[i] != b[i] {
			return i
		}
	}
	return short
}

// After is the least text above a: whatever is above a and begins with a goes on with a byte, and none is below 0.
func After(a string) string { return a + "\x00" }

// Between is the shortest beginning of b that is above a; false, if a is not less than b.
func Between(a, b string) (string, bool) {
	if Compare(a, b) >= 0 {
		return "", false
	}
	// b goes on behind what both have in common, else it would not be above a.
	// The clone keeps the answer from sharing b's memory.
	return strings.Clone(b[:Common(a, b)+1]), true
}

// Slice is the slice number i of s, and its class; 0, 0, if s has none.
func Slice(s string, i int) (n uint64, class int) {
	// The slices are counted, as width * i could wrap round.
	if i < 0 || i >= slicesOf(s) {
		return 0, 0
	}
	rest := s[width*i:]
	for k := range width {
		n <<= 8
		if k < len(rest) {
			n |= uint64(rest[k])
		}
	}
	return n, min(len(rest), more)
}

// slicesOf is how many slices of s have bytes.
func slicesOf(s string) int { return (len(s) + width - 1) / width }

// Unslice is the text of the first class bytes of n (of all, if more follow); no text, if class is not from 1 to 9.
func Unslice(n uint64, class int) string {
	if class < 1 || class > more {
		return ""
	}
	text := make([]byte, 0, width)
	for k := range min(class, width) {
		text = append(text, byte(n>>(8*(width-1-k))))
	}
	return string(text)
}

// Check is ErrLarge, if key is too long for a key, or value for a value.
func Check(key, value string) api.Errno {
	if len(key) > api.MaxKey || len(value) > api.MaxValue {
		return api.ErrLarge
	}
	return api.OK
}
