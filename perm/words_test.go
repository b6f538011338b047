package perm_test

import (
	"math"
	"slices"
	"strconv"

	"marshalling/perm"
	"marshalling/testrows"
)

const empty = "edcba98765432100"

// word is the word of these digits, the count last.
func word(digits string) uint64 {
	p, err := strconv.ParseUint(digits, 16, 64)
	if err != nil {
		panic(err)
	}
	return p
}

// wordOf is the word of these slots in their places, of which the first count ones are in use.
func wordOf(count int, slots []int) uint64 {
	digits := strconv.FormatInt(int64(count), 16)
	for _, slot := range slots {
		digits = strconv.FormatInt(int64(slot), 16) + digits
	}
	return word(digits)
}

// outside are places and ranks that no word has, among them such as would wrap round to one that it has, if they were multiplied.
func outside() []int {
	return []int{-1, -2, -15, -16, 15, 16, 17, 255, 256, 1 << 16, 1<<31 - 1, 1 << 31, 1 << 32, 1<<32 + 1, 1 << 60, 1 << 61, 1 << 62, 1<<62 + 1, -1 << 62, -1<<62 + 2, math.MinInt, math.MinInt + 1, math.MaxInt, math.MaxInt - 1}
}

// rightWords are words of each count, with the slots in several rows.
func rightWords() []uint64 {
	rising := make([]int, perm.Width)
	for i := range rising {
		rising[i] = i
	}
	falling := slices.Clone(rising)
	slices.Reverse(falling)
	rows := [][]int{rising, falling}
	for _, step := range []int{2, 4, 7, 11} { // none shares a factor with 15, so each slot is met once
		row := make([]int, perm.Width)
		for i := range row {
			row[i] = (i*step + 3) % perm.Width
		}
		rows = append(rows, row)
	}
	draw := testrows.Draws(13)
	for range 6 {
		row := slices.Clone(rising)
		for i := range row {
			j := i + draw(len(row)-i)
			row[i], row[j] = row[j], row[i]
		}
		rows = append(rows, row)
	}
	var l []uint64
	for _, row := range rows {
		for count := range perm.Width + 1 {
			l = append(l, wordOf(count, row))
		}
	}
	return l
}

// digitAt is one digit of a word; the count is the digit 0, the place i the digit i + 1.
func digitAt(p uint64, i int) int {
	digits := strconv.FormatUint(p, 16)
	if i >= len(digits) {
		return 0
	}
	n, err := strconv.ParseUint(digits[len(digits)-1-i:len(digits)-i], 16, 8)
	if err != nil {
		panic(err)
	}
	return int(n)
}

// withDigit is p with another digit there.
func withDigit(p uint64, i, n int) uint64 {
	return p&^(15<<(4*i)) | uint64(n)<<(4*i)
}

// wrongWords are words whose places have not each slot once: most differ from right words in one place, or in two with the same sum.
func wrongWords() []uint64 {
	l := []uint64{0, 1, 15, 16, math.MaxUint64, math.MaxUint64 - 1, 1 << 63, word("edcba98765432200"), word("fdcba98765432100"), word("edcba987654321f0"), word("edcbaf8765432103"), word("1dcba9876543210f"), word("fedcba9876543210"), word("0123456789abcdff")}
	for _, p := range rightWords() {
		for i := range perm.Width {
			for n := range 16 {
				if n != digitAt(p, i+1) {
					l = append(l, withDigit(p, i+1, n))
				}
			}
			j := (i + 4) % perm.Width
			if up, down := digitAt(p, i+1)+1, digitAt(p, j+1)-1; down >= 0 && up != down+1 {
				l = append(l, withDigit(withDigit(p, i+1, up), j+1, down))
			}
		}
	}
	return l
}
