package keys_test

import (
	"math"
	"strings"
	"testing"
	"unsafe"

	"marshalling/api"
	"marshalling/keys"
)

// edges are the bytes at which a signed or a short comparison would go wrong.
var edges = []byte{0x00, 0x7f, 0x80, 0xff}

// shortTexts are all texts of at most n of the bytes edges, the shorter ones first.
func shortTexts(n int) []string {
	all := []string{""}
	last := all
	for range n {
		var next []string
		for _, s := range last {
			for _, c := range edges {
				next = append(next, s+string([]byte{c}))
			}
		}
		all = append(all, next...)
		last = next
	}
	return all
}

// longTexts are texts about the ends of slices, of keys and of values, each with several ends.
func longTexts() []string {
	var all []string
	for _, n := range []int{7, 8, 9, 15, 16, 17, 23, 24, 25, 32, 33} {
		for _, c := range edges {
			same := strings.Repeat(string([]byte{c}), n)
			all = append(all, same)
			for _, d := range edges {
				if d != c {
					all = append(all, same[:n-1]+string([]byte{d}))
				}
			}
		}
		all = append(all, strings.Repeat("0123456789abcdef", 3)[:n])
	}
	return all
}

func texts() []string { return append(shortTexts(3), longTexts()...) }

// less is the document's order, said once more: the first byte that differs decides, and a beginning is less.
func less(a, b string) bool {
	for i := 0; i < len(a) && i < len(b); i++ {
		if a[i] != b[i] {
			return a[i] < b[i]
		}
	}
	return len(a) < len(b)
}

func order(a, b string) int {
	if less(a, b) {
		return -1
	}
	if less(b, a) {
		return 1
	}
	return 0
}

func TestCompareExamples(t *testing.T) { // P1.1
	for _, x := range []struct {
		a, b string
		want int
	}{
		{"a", "ab", -1}, {"b", "ab", 1}, {"", "", 0}, {"", "\x00", -1}, {"a", "a\x00", -1}, {"a\x00", "a", 1},
		{"\x7f", "\x80", -1}, {"\xff", "\x00", 1}, {"\x80", "\xff", -1}, {"abc", "abc", 0}, {"ab\xff", "ac", -1},
		{"12345678", "123456789", -1}, {"1234567890123456", "12345678901234567", -1},
		{"12345678\x80", "12345678\x7f", 1},
	} {
		if got := keys.Compare(x.a, x.b); got != x.want {
			t.Errorf("Compare(%q, %q) = %d, want %d", x.a, x.b, got, x.want)
		}
	}
}

func TestCompareOfAllPairs(t *testing.T) { // P1.1
	l := texts()
	for _, a := range l {
		for _, b := range l {
			if got, want := keys.Compare(a, b), order(a, b); got != want {
				t.Fatalf("Compare(%q, %q) = %d, want %d", a, b, got, want)
			}
		}
	}
}

func TestCommonExamples(t *testing.T) { // P1.1
	for _, x := range []struct {
		a, b string
		want int
	}{
		{"abc", "abd", 2}, {"", "", 0}, {"", "a", 0}, {"a", "", 0}, {"ab", "abcd", 2}, {"abcd", "ab", 2},
		{"abc", "abc", 3}, {"x", "y", 0}, {"xbc", "ybc", 0}, {"a\x00", "a", 1}, {"\x00\x00", "\x00\xff", 1},
		{"123456789", "12345678", 8}, {"12345678901234567", "12345678901234568", 16},
	} {
		if got := keys.Common(x.a, x.b); got != x.want {
			t.Errorf("Common(%q, %q) = %d, want %d", x.a, x.b, got, x.want)
		}
	}
}

func TestCommonOfAllPairs(t *testing.T) { // P1.1
	l := texts()
	for _, a := range l {
		for _, b := range l {
			n := keys.Common(a, b)
			if n < 0 || n > len(a) || n > len(b) || a[:n] != b[:n] {
				t.Fatalf("Common(%q, %q) = %d: not alike so far", a, b, n)
			}
			if n < len(a) && n < len(b) && a[n] == b[n] {
				t.Fatalf("Common(%q, %q) = %d: alike further on", a, b, n)
			}
		}
	}
}

func TestAfter(t *testing.T) { // P1.2
	l := texts()
	for _, a := range l {
		after := keys.After(a)
		if after != a+"\x00" {
			t.Fatalf("After(%q) = %q", a, after)
		}
		for _, b := range l {
			if less(a, b) && less(b, after) {
				t.Fatalf("%q is above %q and below its After", b, a)
			}
		}
	}
}

func TestBetweenExamples(t *testing.T) { // P1.2
	for _, x := range []struct {
		a, b, want string
		ok         bool
	}{
		{"abc", "abd", "abd", true}, {"ab", "abcd", "abc", true}, {"b", "a", "", false}, {"", "", "", false},
		{"a", "a", "", false}, {"ab", "a", "", false}, {"", "xyz", "x", true}, {"abz", "acz", "ac", true},
		{"a", "a\x00", "a\x00", true}, {"\x7f", "\x80\x80", "\x80", true}, {"\x80", "\x7f", "", false},
		{"12345678", "1234567890", "123456789", true}, {"1234567890123456", "12345678901234567", "12345678901234567", true},
		{"\xff", "\xff\xff\xff", "\xff\xff", true},
	} {
		if got, ok := keys.Between(x.a, x.b); got != x.want || ok != x.ok {
			t.Errorf("Between(%q, %q) = %q, %v, want %q, %v", x.a, x.b, got, ok, x.want, x.ok)
		}
	}
}

func TestBetweenOfAllPairs(t *testing.T) { // P1.2
	l := texts()
	for _, a := range l {
		for _, b := range l {
			got, ok := keys.Between(a, b)
			if ok != less(a, b) {
				t.Fatalf("Between(%q, %q): %v", a, b, ok)
			}
			if !ok && got != "" {
				t.Fatalf("Between(%q, %q) = %q beside false", a, b, got)
			}
			if !ok {
				continue
			}
			if !strings.HasPrefix(b, got) || len(got) != keys.Common(a, b)+1 {
				t.Fatalf("Between(%q, %q) = %q: not that beginning", a, b, got)
			}
			if !less(a, got) || less(b, got) {
				t.Fatalf("Between(%q, %q) = %q: not between", a, b, got)
			}
		}
	}
}

func TestNoShorterTextIsBetween(t *testing.T) { // P1.2
	l := shortTexts(3)
	for _, a := range l {
		for _, b := range l {
			got, ok := keys.Between(a, b)
			if !ok {
				continue
			}
			for _, c := range l {
				if len(c) < len(got) && less(a, c) && !less(b, c) {
					t.Fatalf("Between(%q, %q) = %q, and %q is shorter", a, b, got, c)
				}
			}
		}
	}
}

func TestBetweenIsNewMemory(t *testing.T) { // R4
	b := strings.Clone("abcd")
	got, ok := keys.Between("ab", b)
	if !ok || unsafe.StringData(got) == unsafe.StringData(b) {
		t.Error("the answer shares the argument's memory")
	}
}

func TestSliceExamples(t *testing.T) { // P1.3
	for _, x := range []struct {
		s     string
		i     int
		n     uint64
		class int
	}{
		{"ab", 0, 0x6162000000000000, 2}, {"ab", 1, 0, 0}, {"", 0, 0, 0}, {"", 1, 0, 0}, {"a", 0, 0x61 << 56, 1},
		{"1234567", 0, 0x3132333435363700, 7},
		{"12345678", 0, 0x3132333435363738, 8}, {"12345678", 1, 0, 0},
		{"123456789", 0, 0x3132333435363738, 9}, {"123456789", 1, 0x3900000000000000, 1}, {"123456789", 2, 0, 0},
		{"1234567812345678", 0, 0x3132333435363738, 9}, {"1234567812345678", 1, 0x3132333435363738, 8},
		{"1234567812345678", 2, 0, 0},
		{"12345678123456789", 1, 0x3132333435363738, 9}, {"12345678123456789", 2, 0x3900000000000000, 1},
		{"12345678123456789", 3, 0, 0},
		{"\x00", 0, 0, 1}, {strings.Repeat("\x00", 8), 0, 0, 8}, {strings.Repeat("\x00", 9), 0, 0, 9},
		{strings.Repeat("\x00", 9), 1, 0, 1},
		{"\x7f\x80\xff\x00", 0, 0x7f80ff0000000000, 4}, {strings.Repeat("\xff", 8), 0, math.MaxUint64, 8},
		{strings.Repeat("\xff", 9), 0, math.MaxUint64, 9}, {strings.Repeat("\xff", 9), 1, 0xff << 56, 1},
		{strings.Repeat("\x80", 24), 2, 0x8080808080808080, 8}, {strings.Repeat("\x80", 25), 2, 0x8080808080808080, 9},
	} {
		if n, class := keys.Slice(x.s, x.i); n != x.n || class != x.class {
			t.Errorf("Slice(%q, %d) = %#x, %d, want %#x, %d", x.s, x.i, n, class, x.n, x.class)
		}
	}
}

func TestSliceBesideTheText(t *testing.T) { // P1.3, R1
	// The multiples of 2^61 are those whose eightfold wraps round to a place within the text.
	for _, i := range []int{-1, -2, -8, math.MinInt, math.MinInt + 1, math.MaxInt, 4, 100, 1 << 32, 1 << 60, 1 << 61, 1<<61 + 1, 1 << 62, 1<<62 + 1, -1 << 61, -1<<61 + 1} {
		for _, s := range []string{"", "ab", "12345678", "123456789", strings.Repeat("k", 17), strings.Repeat("k", 25)} {
			if n, class := keys.Slice(s, i); n != 0 || class != 0 {
				t.Errorf("Slice(%q, %d) = %#x, %d", s, i, n, class)
			}
		}
	}
}

func TestUnsliceExamples(t *testing.T) { // P1.3
	for _, x := range []struct {
		n     uint64
		class int
		want  string
	}{
		{0x6162000000000000, 2, "ab"}, {0x6162000000000000, 3, "ab\x00"}, {0x6162000000000000, 0, ""},
		{0x6162636465666768, 1, "a"}, {0x6162636465666768, 7, "abcdefg"}, {0x6162636465666768, 8, "abcdefgh"},
		{0x6162636465666768, 9, "abcdefgh"}, {0, 1, "\x00"}, {0, 9, "\x00\x00\x00\x00\x00\x00\x00\x00"},
		{0x7f80ff0001020304, 5, "\x7f\x80\xff\x00\x01"}, {math.MaxUint64, 8, "\xff\xff\xff\xff\xff\xff\xff\xff"},
	} {
		if got := keys.Unslice(x.n, x.class); got != x.want {
			t.Errorf("Unslice(%#x, %d) = %q, want %q", x.n, x.class, got, x.want)
		}
	}
}

func TestUnsliceOfNoClass(t *testing.T) { // P1.3, R1
	for _, class := range []int{0, -1, -9, 10, 11, 64, 256 + 1, 1<<32 + 1, math.MinInt, math.MinInt + 1, math.MaxInt} {
		for _, n := range []uint64{0, 1, 0x6162636465666768, math.MaxUint64} {
			if got := keys.Unslice(n, class); got != "" {
				t.Errorf("Unslice(%#x, %d) = %q", n, class, got)
			}
		}
	}
}

func TestUnsliceThenSlice(t *testing.T) { // P1.3
	for _, n := range []uint64{0, 1, 0x80, 0x6162636465666768, 0x7f80ff0102030405, math.MaxUint64} {
		for class := 1; class <= 9; class++ {
			length := min(class, 8)
			want := n >> (64 - 8*length) << (64 - 8*length)
			got, bytes := keys.Slice(keys.Unslice(n, class), 0)
			if got != want || bytes != length {
				t.Errorf("Slice of Unslice(%#x, %d) = %#x, %d, want %#x, %d", n, class, got, bytes, want, length)
			}
		}
	}
}

func TestCheck(t *testing.T) { // P1.4
	for _, x := range []struct {
		key, value int
		want       api.Errno
	}{
		{0, 0, api.OK}, {24, 32, api.OK}, {25, 0, api.ErrLarge}, {0, 33, api.ErrLarge}, {25, 33, api.ErrLarge},
		{24, 33, api.ErrLarge}, {25, 32, api.ErrLarge}, {23, 31, api.OK}, {1000, 0, api.ErrLarge}, {0, 1000, api.ErrLarge},
	} {
		for _, c := range []string{"\x00", "k", "\xff"} {
			key, value := strings.Repeat(c, x.key), strings.Repeat(c, x.value)
			if got := keys.Check(key, value); got != x.want {
				t.Errorf("Check(%d times %q, %d times) = %d, want %d", x.key, c, x.value, got, x.want)
			}
		}
	}
}

func TestCheckCountsBytes(t *testing.T) { // P1.4
	if got := keys.Check(strings.Repeat("é", 12), strings.Repeat("é", 16)); got != api.OK {
		t.Errorf("24 and 32 bytes: %d", got)
	}
	if got := keys.Check(strings.Repeat("é", 13), ""); got != api.ErrLarge {
		t.Errorf("a key of 26 bytes: %d", got)
	}
	if got := keys.Check("", strings.Repeat("é", 17)); got != api.ErrLarge {
		t.Errorf("a value of 34 bytes: %d", got)
	}
}

func TestTheOrderIsOne(t *testing.T) { // P1.5
	l := append(shortTexts(2), longTexts()...)
	for _, a := range l {
		for _, b := range l {
			ab := keys.Compare(a, b)
			if ab != -keys.Compare(b, a) || (ab == 0) != (a == b) {
				t.Fatalf("not just one of less, same, greater: %q, %q", a, b)
			}
			if ab >= 0 {
				continue
			}
			for _, c := range l {
				if keys.Compare(b, c) < 0 && keys.Compare(a, c) >= 0 {
					t.Fatalf("%q is less than %q, this than %q, but not the first than the last", a, b, c)
				}
			}
		}
	}
}

// bySlices is the order of two texts as their slices and classes tell it; 2, if these never end.
func bySlices(a, b string) int {
	for i := range len(a) + len(b) + 1 {
		n, class := keys.Slice(a, i)
		m, other := keys.Slice(b, i)
		switch {
		case n < m || n == m && class < other:
			return -1
		case n > m || class > other:
			return 1
		case class != 9:
			return 0
		}
	}
	return 2
}

func TestSlicesStandAsTheTexts(t *testing.T) { // P1.5
	l := texts()
	for _, a := range l {
		for _, b := range l {
			if got, want := bySlices(a, b), keys.Compare(a, b); got != want {
				t.Fatalf("%q, %q: by slices %d, by Compare %d", a, b, got, want)
			}
		}
	}
}

func TestRestsStandAsTheTexts(t *testing.T) { // P1.5
	l := texts()
	for _, a := range l {
		for _, b := range l {
			n, class := keys.Slice(a, 0)
			m, other := keys.Slice(b, 0)
			if n != m || class != other {
				continue
			}
			if class != 9 && a != b {
				t.Fatalf("%q and %q have the same slice and class %d", a, b, class)
			}
			if class == 9 && keys.Compare(a[8:], b[8:]) != keys.Compare(a, b) {
				t.Fatalf("%q and %q do not stand as their rests", a, b)
			}
		}
	}
}

func TestATextIsItsSlicesTexts(t *testing.T) { // P1.5
	for _, s := range append(texts(), strings.Repeat("0123456789", 100)) {
		whole := ""
		for i := 0; i < len(s)+1; i++ {
			n, class := keys.Slice(s, i)
			whole += keys.Unslice(n, class)
		}
		if whole != s {
			t.Fatalf("the slices of %q give %q", s, whole)
		}
	}
}
