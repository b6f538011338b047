package linear_test

import (
	"slices"
	"strconv"
	"testing"

	"marshalling/api"
)

// rises are n Swaps, of which each finds what the one ahead has given: one row alone answers them so.
func rises(n int) []asked {
	var l []asked
	for k := range n {
		l = append(l, asked{swapOld("k", strconv.Itoa(k+1), strconv.Itoa(k)), found(strconv.Itoa(k))})
	}
	return l
}

var nought = []api.Pair{has("k", "0")}

func TestSevenOperationsAndEight(t *testing.T) { // P8.2
	for n := range 10 {
		wantSome(t, nought, behind(rises(n)...), n <= 7)
		wantSome(t, nought, together(rises(n)...), n <= 7)
		turned := rises(n)
		slices.Reverse(turned)
		wantSome(t, nought, together(turned...), n <= 7)
		wantSome(t, nought, behind(turned...), n <= 1)
		wantSome(t, nil, together(turned...), n == 0)
		wantCheck(t, nought, behind(rises(n)...), -1)
	}
	for n := range 10 { // also of those that have begun alone, and of those that had no room
		var l []api.Event
		for k := range n {
			l = append(l, begun(k+1, get("k")))
		}
		wantSome(t, nil, l, n <= 7)
		for k := range n {
			l = append(l, marked(k+1, refusal(api.ErrBusy)))
		}
		wantSome(t, nil, l, n <= 7)
		for k := range n {
			l = append(l, ended(k+1, refusal(api.ErrBusy)))
		}
		wantSome(t, nil, l, n <= 7)
		wantCheck(t, nil, l, -1)
	}
}

func TestSevenThatFitOneRowAlone(t *testing.T) { // P8.2
	l := rises(7)
	for _, order := range [][]int{{3, 0, 6, 1, 5, 2, 4}, {6, 5, 4, 3, 2, 1, 0}, {1, 0, 3, 2, 5, 4, 6}, {0, 6, 1, 5, 2, 4, 3}} {
		var mixed []asked
		for _, k := range order {
			mixed = append(mixed, l[k])
		}
		wantSome(t, nought, together(mixed...), true)
		for k := range mixed {
			for _, a := range otherAnswers(mixed[k].a) {
				other := slices.Clone(mixed)
				other[k].a = a
				wantSome(t, nought, together(other...), false)
			}
		}
	}
}

func TestAnyRowKeepsToWhatIsAhead(t *testing.T) { // P8.2
	one, two := put("a", "1"), put("a", "2")
	// 1 is ahead of 3, and 2 overlaps both.
	row := func(a api.Answer) []api.Event {
		return []api.Event{begun(1, one), begun(2, get("a")), marked(1, none), ended(1, none), begun(3, two), marked(3, found("1")), ended(3, found("1")), marked(2, a), ended(2, a)}
	}
	wantSome(t, nil, row(none), true)
	wantSome(t, nil, row(found("1")), true)
	wantSome(t, nil, row(found("2")), true)
	wantSome(t, nil, row(found("3")), false)
	l := row(found("2"))
	l[5].Answer, l[6].Answer = none, none
	wantSome(t, nil, l, false) // 3 would have to stand ahead of 1
	// 2 begins behind the end of 1, so it is not done ahead of it.
	l = []api.Event{begun(1, one), marked(1, none), ended(1, none), begun(2, get("a")), begun(3, two), marked(3, found("1")), ended(3, found("1")), marked(2, none), ended(2, none)}
	wantSome(t, nil, l, false)
	l[7].Answer, l[8].Answer = found("1"), found("1")
	wantSome(t, nil, l, true)
	// Not the mark, but the end puts one ahead.
	l = []api.Event{begun(1, one), marked(1, none), begun(2, get("a")), marked(2, none), ended(2, none), ended(1, none)}
	wantSome(t, nil, l, true)
	wantCheck(t, nil, l, 3)
	// Not the row in which they begin, nor the one in which they end.
	l = []api.Event{begun(1, two), begun(2, one), marked(1, found("1")), marked(2, none), ended(1, found("1")), ended(2, none)}
	wantSome(t, nil, l, true)
}

func TestWhatIsPendingMayBeDone(t *testing.T) { // P8.2
	one := put("a", "1")
	for _, mark := range [][]api.Event{nil, {marked(1, none)}, {marked(1, found("9"))}, {marked(1, refusal(api.ErrLarge))}, {marked(1, refusal(api.ErrFull))}, {marked(1, refusal(api.ErrBusy))}} {
		l := append([]api.Event{begun(1, one), begun(2, get("a"))}, mark...)
		wantSome(t, nil, l, true)
		for _, a := range []api.Answer{none, found("1")} { // it is not done, or it is
			wantSome(t, nil, append(slices.Clone(l), marked(2, a), ended(2, a)), true)
		}
		for _, a := range []api.Answer{found("9"), found(""), refusal(api.ErrLarge)} {
			wantSome(t, nil, append(slices.Clone(l), marked(2, a), ended(2, a)), false)
		}
	}
}

func TestWhatIsPendingIsDoneOnceAtMost(t *testing.T) { // P8.2
	twice := together(asked{del("a"), found("1")}, asked{del("a"), found("1")})
	wantSome(t, nil, append([]api.Event{begun(7, put("a", "1"))}, twice...), false)
	wantSome(t, nil, append([]api.Event{begun(7, put("a", "1")), begun(8, put("a", "1"))}, twice...), true)
	wantSome(t, []api.Pair{has("a", "1")}, append([]api.Event{begun(7, put("a", "1"))}, twice...), true)
	wantSome(t, []api.Pair{has("a", "1")}, twice, false)
}

func TestWhatIsPendingKeepsToWhatIsAhead(t *testing.T) { // P8.2
	read := behind(asked{get("a"), found("1")})
	wantSome(t, nil, append(slices.Clone(read), begun(2, put("a", "1"))), false)
	wantSome(t, nil, append(slices.Clone(read), begun(2, put("a", "1")), marked(2, none)), false)
	wantSome(t, nil, slices.Insert(slices.Clone(read), 2, begun(2, put("a", "1"))), true)
	// It may be done long behind its beginning: pending is ahead of nothing.
	l := append([]api.Event{begun(9, put("a", "1")), marked(9, none)}, behind(asked{get("a"), none}, asked{get("a"), none}, asked{get("a"), found("1")})...)
	wantSome(t, nil, l, true)
	wantCheck(t, nil, l, 3)
	l = append(l, begun(4, get("a")), marked(4, none), ended(4, none))
	wantSome(t, nil, l, false)
	// What has begun behind all others cannot be seen by them, be it needed ever so much.
	l = append(together(asked{swap("b", "1"), found("")}, asked{get("a"), found("1")}), begun(3, put("a", "1")), begun(4, put("a", "1")))
	wantSome(t, nil, l, false)
}

func TestWhatHadNoRoomIsNotTried(t *testing.T) { // P8.2
	for _, code := range []api.Errno{api.ErrFull, api.ErrBusy} {
		// It is ended, so it has done nothing: not even what would be needed.
		l := together(asked{put("a", "1"), refusal(code)}, asked{get("a"), found("1")})
		wantSome(t, nil, l, false)
		wantSome(t, nil, l[:5], true) // the Get is not ended
		l = together(asked{put("a", "1"), refusal(code)}, asked{get("a"), none})
		wantSome(t, nil, l, true)
		wantSome(t, []api.Pair{has("a", "0")}, l, false)
		// It keeps ahead what is ahead of it, and behind what is behind.
		l = behind(asked{put("a", "1"), none}, asked{del("a"), refusal(code)}, asked{get("a"), none})
		wantSome(t, nil, l, false)
		l = behind(asked{put("a", "1"), none}, asked{del("a"), refusal(code)}, asked{get("a"), found("1")})
		wantSome(t, nil, l, true)
	}
}

func TestBatchesAreDoneWhole(t *testing.T) { // P8.2
	both := asked{batch(write("a", "1"), write("b", "1")), none}
	for _, x := range []struct {
		a, b api.Answer
		want bool
	}{{none, none, true}, {none, found("1"), true}, {found("1"), found("1"), true}, {found("1"), none, false}} {
		gets := behind(asked{get("a"), x.a}, asked{get("b"), x.b})
		wantSome(t, nil, append([]api.Event{begun(9, both.op)}, gets...), x.want)
		wantSome(t, nil, append(append([]api.Event{begun(9, both.op)}, gets...), marked(9, none), ended(9, none)), x.want)
	}
}

func TestNextAmongManyKeys(t *testing.T) { // P8.2
	many := func() []api.Pair {
		var l []api.Pair
		for c := 'a'; c <= 'z'; c++ {
			l = append(l, has(string(c), "1"))
		}
		return l
	}
	some := func(want bool, l ...asked) {
		t.Helper()
		wantSome(t, many(), together(l...), want)
	}
	some(true, asked{after("c"), told("d", "1")}, asked{del("d"), found("1")})
	some(true, asked{after("c"), told("e", "1")}, asked{del("d"), found("1")})
	some(false, asked{after("c"), told("f", "1")}, asked{del("d"), found("1")})
	some(true, asked{next("c"), told("f", "1")}, asked{batch(gone("c"), gone("e")), none}, asked{del("d"), found("1")})
	some(false, asked{next("c"), told("g", "1")}, asked{batch(gone("c"), gone("e")), none}, asked{del("d"), found("1")})
	some(true, asked{next("c"), told("cc", "2")}, asked{batch(gone("c"), write("cc", "2")), none})
	some(false, asked{next("c"), told("d", "1")}, asked{batch(gone("c"), write("cc", "2")), none})
	some(true, asked{after("y"), none}, asked{del("z"), found("1")})
	some(true, asked{after("y"), told("z", "1")}, asked{del("z"), found("1")}, asked{after("z"), none})
	some(false, asked{after("y"), told("z", "2")}, asked{del("z"), found("1")})
	some(true, asked{after("y"), told("z", "2")}, asked{put("z", "2"), found("1")})
	some(true, asked{next("m"), told("m", "1")}, asked{get("n"), found("1")}, asked{next("n"), told("n", "1")}, asked{after("m"), told("n", "1")})
	some(false, asked{after("m"), told("o", "1")}, asked{get("n"), found("1")})
	some(true, asked{after("a"), told("t", "1")}, asked{after("a"), told("j", "1")}, asked{batch(gones("bcdefghi")...), none}, asked{batch(gones("jklmnopq")...), none}, asked{batch(gones("rs")...), none})
}

// gones takes a key of one byte for each byte of keys away.
func gones(keys string) []api.Write {
	var l []api.Write
	for k := range keys {
		l = append(l, gone(keys[k:k+1]))
	}
	return l
}

func TestSomeEndsWithManyKeysAndNoRow(t *testing.T) { // P8.2, R1
	var start []api.Pair
	for k := range 1 << 16 {
		start = append(start, has(string([]byte{byte(k >> 8), byte(k)}), "1"))
	}
	l := []api.Event{}
	for id := range 6 {
		var w []api.Write
		for k := range 8 {
			w = append(w, write(string([]byte{byte(id), byte(k)}), strconv.Itoa(id)))
		}
		l = append(l, begun(id+1, batch(w...)))
	}
	ask := func(a api.Answer) []api.Event {
		return append(slices.Clone(l), begun(7, next("\x05\x07")), marked(7, a), ended(7, a))
	}
	for _, x := range []struct {
		a    api.Answer
		want bool
	}{{told("\x05\x07", "1"), true}, {told("\x05\x07", "5"), true}, {told("\x05\x07", "4"), false}, {none, false}} {
		wantSomeOf(t, start, ask(x.a), x.want)
	}
}
