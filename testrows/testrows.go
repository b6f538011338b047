// Package testrows makes the rows that the tests of the other packages go over; the program does not call it.
package testrows

// Each goes over all rows of n of the things. A row is written over once do is done with it.
func Each[T any](n int, things []T, do func(row []T)) {
	row := make([]T, n)
	var fill func(at int)
	fill = func(at int) {
		if at == n {
			do(row)
			return
		}
		for _, x := range things {
			row[at] = x
			fill(at + 1)
		}
	}
	fill(0)
}

// Draws tells numbers below n, one behind the other, that look like chance, and are the same each time for a seed; n is at least 1.
func Draws(seed uint64) func(n int) int {
	return func(n int) int {
		seed = seed*6364136223846793005 + 1442695040888963407
		return int(seed>>33) % n
	}
}

// Text is one of up to most of a few bytes, so that many texts are alike, or begin alike; some are bytes of 128 and more.
func Text(draw func(n int) int, most int) string {
	b := make([]byte, draw(most+1))
	for i := range b {
		b[i] = []byte{0, 'a', 0x7f, 0x80, 0xff}[draw(5)]
	}
	return string(b)
}
