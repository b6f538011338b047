package testtrees

import (
	"strconv"
	"strings"
)

// Key is the key number n, of 1000.
func Key(n int) string { return "k" + strconv.Itoa(1000 + n)[1:] }

// Orders are the first n keys, n being even, rising, falling and mixed.
func Orders(n int) map[string][]string {
	l := map[string][]string{}
	for i := range n {
		l["rising"] = append(l["rising"], Key(i))
		l["falling"] = append(l["falling"], Key(n-1-i))
		l["from the middle"] = append(l["from the middle"], Key(n/2+(i+1)/2*(1-i%2*2)))
		l["in strides"] = append(l["in strides"], Key(i*7919%n)) // 7919 has no divisor in common with an n that is not its multiple
	}
	return l
}

// Odd are keys and values of which some are empty, begin others, have bytes of 128 and more, or are long.
func Odd() []string {
	return []string{"", "\x00", "\x00\x00", "a", "a\x00", "a\x00b", "aa", "ab", "b", "\x7f", "\x80", "\xc3\xa4", "\xff", "\xff\x00", "\xff\xff", strings.Repeat("k", 24), strings.Repeat("k", 25), strings.Repeat("v", 5000)}
}
