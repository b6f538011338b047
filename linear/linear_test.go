package linear_test

import (
	"math"
	"reflect"
	"slices"
	"strings"
	"testing"
	"unsafe"

	"marshalling/api"
	"marshalling/linear"
)

var none = api.Answer{}

func get(key string) api.Op          { return api.Op{Kind: api.Get, Key: key} }
func put(key, value string) api.Op   { return api.Op{Kind: api.Put, Key: key, Value: value} }
func del(key string) api.Op          { return api.Op{Kind: api.Delete, Key: key} }
func swap(key, value string) api.Op  { return api.Op{Kind: api.Swap, Key: key, Value: value} }
func next(key string) api.Op         { return api.Op{Kind: api.Next, Key: key} }
func after(key string) api.Op        { return api.Op{Kind: api.Next, Key: key, After: true} }
func batch(l ...api.Write) api.Op    { return api.Op{Kind: api.Batch, Writes: l} }
func gone(key string) api.Write      { return api.Write{Key: key, Gone: true} }
func has(key, value string) api.Pair { return api.Pair{Key: key, Value: value} }

func write(key, value string) api.Write { return api.Write{Key: key, Value: value} }

func swapOld(key, value, old string) api.Op {
	return api.Op{Kind: api.Swap, Key: key, Value: value, Had: true, Old: old}
}

func found(value string) api.Answer { return api.Answer{Found: true, Value: value} }

func told(key, value string) api.Answer {
	return api.Answer{Found: true, Key: key, Value: value}
}

func refusal(e api.Errno) api.Answer { return api.Answer{Code: e} }

func begun(id int, op api.Op) api.Event { return api.Event{Kind: api.Begun, Id: id, Op: op} }

func marked(id int, a api.Answer) api.Event {
	return api.Event{Kind: api.Marked, Id: id, Answer: a}
}

func ended(id int, a api.Answer) api.Event { return api.Event{Kind: api.Ended, Id: id, Answer: a} }

// asked is an operation and what it is answered.
type asked struct {
	op api.Op
	a  api.Answer
}

// behind are the events of the operations, each of which ends ahead of the next one's beginning.
func behind(l ...asked) []api.Event {
	var events []api.Event
	for k, x := range l {
		events = append(events, begun(k+1, x.op), marked(k+1, x.a), ended(k+1, x.a))
	}
	return events
}

// together are the events of the operations, all of which begin ahead of the first mark, and end behind the last one.
func together(l ...asked) []api.Event {
	var events []api.Event
	for k, x := range l {
		events = append(events, begun(k+1, x.op))
	}
	for k, x := range l {
		events = append(events, marked(k+1, x.a))
	}
	for k, x := range l {
		events = append(events, ended(k+1, x.a))
	}
	return events
}

// several are pairs whose keys have a beginning of another, bytes of 128 and more, and the empty one.
func several() []api.Pair {
	return []api.Pair{has("", "e"), has("a", "1"), has("a\x00", "2"), has("b", "4"), has("\xff", "6")}
}

// severalBut are several without the key, and with l.
func severalBut(key string, l ...api.Pair) []api.Pair {
	pairs := slices.DeleteFunc(several(), func(p api.Pair) bool { return p.Key == key })
	pairs = append(pairs, l...)
	slices.SortFunc(pairs, func(a, b api.Pair) int { return strings.Compare(a.Key, b.Key) })
	return pairs
}

// wantCheck wants that place, and ErrWrong there; OK, if it is -1.
func wantCheck(t *testing.T, start []api.Pair, l []api.Event, at int) {
	t.Helper()
	want := api.OK
	if at >= 0 {
		want = api.ErrWrong
	}
	if k, e := linear.Check(start, l); k != at || e != want {
		t.Errorf("Check(%q, %+v) = %d, %d, want %d, %d", start, l, k, e, at, want)
	}
}

func wantAfter(t *testing.T, start []api.Pair, l []api.Event, want ...api.Pair) {
	t.Helper()
	if got := linear.After(start, l); !slices.Equal(got, want) {
		t.Errorf("After(%q, %+v) = %q, want %q", start, l, got, want)
	}
}

// plain is an operation whose list is nil if it has no elements, as the two are the same.
func plain(op api.Op) api.Op {
	if len(op.Writes) == 0 {
		op.Writes = nil
	}
	return op
}

func sameOps(l, m []api.Op) bool {
	return slices.EqualFunc(l, m, func(a, b api.Op) bool { return reflect.DeepEqual(plain(a), plain(b)) })
}

func wantWitness(t *testing.T, l []api.Event, want ...api.Op) {
	t.Helper()
	if got := linear.Witness(l); !sameOps(got, want) {
		t.Errorf("Witness(%+v) = %+v, want %+v", l, got, want)
	}
}

func wantSome(t *testing.T, start []api.Pair, l []api.Event, want bool) {
	t.Helper()
	if got := linear.Some(start, l); got != want {
		t.Errorf("Some(%q, %+v) = %t", start, l, got)
	}
}

func TestTheDocumentsExamples(t *testing.T) { // P8.1, P8.2
	one := put("a", "1")
	l := []api.Event{begun(1, one), begun(2, get("a")), marked(1, none), marked(2, found("1")), ended(1, none), ended(2, found("1"))}
	wantCheck(t, nil, l, -1)
	wantAfter(t, nil, l, has("a", "1"))
	wantWitness(t, l, one, get("a"))
	wantSome(t, nil, l, true)
	l = []api.Event{begun(1, one), begun(2, get("a")), marked(1, none), marked(2, none), ended(1, none), ended(2, none)}
	wantCheck(t, nil, l, 3)
	wantAfter(t, nil, l, has("a", "1"))
	wantSome(t, nil, l, true)
	l = behind(asked{one, none}, asked{get("a"), none})
	wantCheck(t, nil, l, 4)
	wantAfter(t, nil, l, has("a", "1"))
	wantSome(t, nil, l, false)
	l = behind(asked{one, refusal(api.ErrFull)}, asked{get("a"), none})
	wantCheck(t, nil, l, -1)
	wantAfter(t, nil, l)
	wantWitness(t, l, one, get("a"))
	wantSome(t, nil, l, true)
}

func TestARowWithoutEvents(t *testing.T) { // P8.1, P8.2
	for _, l := range [][]api.Event{nil, {}} {
		for _, start := range [][]api.Pair{nil, {}} {
			wantCheck(t, start, l, -1)
			wantAfter(t, start, l)
			wantSome(t, start, l, true)
		}
		wantCheck(t, several(), l, -1)
		wantAfter(t, several(), l, several()...)
		wantWitness(t, l)
		wantSome(t, several(), l, true)
	}
}

// kind is one operation, its answer and what it leaves: from no keys on, and from several.
type kind struct {
	op      api.Op
	a       api.Answer
	left    []api.Pair
	a2      api.Answer
	several []api.Pair
}

func kinds() []kind {
	return []kind{
		{get("b"), none, nil, found("4"), several()},
		{get("c"), none, nil, none, several()},
		{put("b", "9"), none, []api.Pair{has("b", "9")}, found("4"), severalBut("b", has("b", "9"))},
		{put("c", ""), none, []api.Pair{has("c", "")}, none, severalBut("none", has("c", ""))},
		{put("", ""), none, []api.Pair{has("", "")}, found("e"), severalBut("", has("", ""))},
		{del("b"), none, nil, found("4"), severalBut("b")},
		{del("c"), none, nil, none, several()},
		{swap("b", "9"), found(""), []api.Pair{has("b", "9")}, api.Answer{Value: "4"}, several()},
		{swap("c", "9"), found(""), []api.Pair{has("c", "9")}, found(""), severalBut("none", has("c", "9"))},
		{swapOld("b", "9", "4"), none, nil, found("4"), severalBut("b", has("b", "9"))},
		{swapOld("b", "9", "5"), none, nil, api.Answer{Value: "4"}, several()},
		{next("a"), none, nil, told("a", "1"), several()},
		{after("a"), none, nil, told("a\x00", "2"), several()},
		{next("c"), none, nil, told("\xff", "6"), several()},
		{after("\xff"), none, nil, none, several()},
		{next(""), none, nil, told("", "e"), several()},
		{batch(), none, nil, none, several()},
		{batch(write("b", "8"), write("b", "9"), gone("a")), none, []api.Pair{has("b", "9")}, none, slices.DeleteFunc(severalBut("b", has("b", "9")), func(p api.Pair) bool { return p.Key == "a" })},
	}
}

// otherAnswers are answers each of which differs from a in one field.
func otherAnswers(a api.Answer) []api.Answer {
	l := make([]api.Answer, 4)
	for k := range l {
		l[k] = a
	}
	l[0].Code++
	l[1].Found = !a.Found
	l[2].Key += "x"
	l[3].Value += "x"
	return l
}

// holdOne holds a row of that one operation, as far as it has come, against what must come of it.
func holdOne(t *testing.T, start []api.Pair, x asked, left []api.Pair) {
	t.Helper()
	l := behind(x)
	for n := range 4 {
		wantCheck(t, start, l[:n], -1)
		wantSome(t, start, l[:n], true)
	}
	wantAfter(t, start, l[:1], start...)
	wantWitness(t, l[:1])
	for n := 2; n < 4; n++ {
		wantAfter(t, start, l[:n], left...)
		wantWitness(t, l[:n], x.op)
	}
	for _, a := range otherAnswers(x.a) {
		l := behind(asked{x.op, a})
		for n := 2; n < 4; n++ {
			wantCheck(t, start, l[:n], 1)
			wantAfter(t, start, l[:n], left...)
			wantWitness(t, l[:n], x.op)
			wantSome(t, start, l[:n], n == 2)
		}
	}
}

func TestOneOperationOfEachKind(t *testing.T) { // P8.1, P8.2
	for _, x := range kinds() {
		holdOne(t, nil, asked{x.op, x.a}, x.left)
		holdOne(t, several(), asked{x.op, x.a2}, x.several)
	}
}

func TestARowWithEachKind(t *testing.T) { // P8.1
	l := behind(
		asked{put("b", "1"), none}, asked{put("b", "2"), found("1")}, asked{get("b"), found("2")}, asked{get("c"), none},
		asked{swapOld("b", "3", "2"), found("2")}, asked{swapOld("b", "4", "2"), api.Answer{Value: "3"}}, asked{swap("c", "5"), found("")}, asked{swap("c", "6"), api.Answer{Value: "5"}},
		asked{next("a"), told("b", "3")}, asked{next("b"), told("b", "3")}, asked{after("b"), told("c", "5")}, asked{after("c"), none},
		asked{batch(gone("b"), write("d", "7"), write("d", "8")), none}, asked{get("d"), found("8")}, asked{del("d"), found("8")}, asked{del("d"), none},
	)
	wantCheck(t, nil, l, -1)
	wantAfter(t, nil, l, has("c", "5"))
	wantCheck(t, []api.Pair{has("a", "0")}, l, 3*8+1) // Next tells a
	wantAfter(t, []api.Pair{has("a", "0")}, l, has("a", "0"), has("c", "5"))
	wantCheck(t, []api.Pair{has("c", "0")}, l, 3*3+1) // Get finds c
	wantAfter(t, []api.Pair{has("c", "0")}, l, has("c", "0"))
	wantCheck(t, []api.Pair{has("z", "0")}, l, 3*11+1)
	wantCheck(t, []api.Pair{has("b", "1")}, l, 1)
	for k := range 16 {
		m := slices.Clone(l)
		for _, a := range otherAnswers(m[3*k+1].Answer) {
			m[3*k+1].Answer, m[3*k+2].Answer = a, a
			wantCheck(t, nil, m, 3*k+1)
			wantAfter(t, nil, m, has("c", "5"))
		}
		wantCheck(t, nil, m[:3*k+1], -1)
	}
}

func TestTheFirstOfSeveralPlacesThatAreWrong(t *testing.T) { // P8.1, R2
	wantCheck(t, nil, behind(asked{get("a"), none}, asked{put("a", "1"), found("0")}, asked{get("a"), none}, asked{get("b"), found("")}), 4)
	// What was wrong has been done to the map as it must be, whatever it was answered.
	wantCheck(t, nil, behind(asked{put("a", "1"), refusal(api.ErrGone)}, asked{get("a"), found("1")}), 1)
	wantAfter(t, nil, behind(asked{put("a", "1"), refusal(api.ErrGone)}, asked{put("b", "2"), found("0")}), has("a", "1"), has("b", "2"))
	// A mark is where the place is, not the end, even if there is none.
	l := []api.Event{begun(5, get("a")), begun(3, get("b")), marked(3, none), marked(5, found("")), ended(3, none)}
	wantCheck(t, nil, l, 3)
	wantCheck(t, nil, append(l, ended(5, found(""))), 3)
}

func TestMarksInAnotherRowThanTheBeginnings(t *testing.T) { // P8.1
	l := []api.Event{begun(7, get("a")), begun(2, put("a", "2")), begun(4, put("a", "4")), begun(9, del("a")), marked(4, none), marked(7, found("4")), ended(7, found("4")), marked(2, found("4")), ended(4, none)}
	wantCheck(t, nil, l, -1)
	wantAfter(t, nil, l, has("a", "2"))
	wantWitness(t, l, put("a", "4"), get("a"), put("a", "2"))
	wantCheck(t, []api.Pair{has("a", "0")}, l, 4)
	wantSome(t, nil, l, true)
	l[4], l[7] = marked(2, none), marked(4, found("2"))
	wantCheck(t, nil, l[:8], 5)
	wantAfter(t, nil, l[:8], has("a", "4"))
	wantWitness(t, l[:8], put("a", "2"), get("a"), put("a", "4"))
	wantWitness(t, l[:7], put("a", "2"), get("a"))
	wantSome(t, nil, l[:8], true)
}

func TestTwoThatOverlapAndTwoThatDoNot(t *testing.T) { // P8.1, P8.2
	for _, x := range []struct {
		first, second api.Op
		a, b          api.Answer
		check, some   bool // of two that overlap; of two that don't check is the same, and some is check
	}{
		{put("a", "1"), get("a"), none, found("1"), true, true},
		{put("a", "1"), get("a"), none, none, false, true},
		{put("a", "1"), get("a"), none, found("2"), false, false},
		{put("a", "1"), put("a", "2"), none, found("1"), true, true},
		{put("a", "1"), put("a", "2"), found("2"), none, false, true},
		{put("a", "1"), put("a", "2"), none, none, false, false},
		{swap("a", "1"), swap("a", "2"), found(""), api.Answer{Value: "1"}, true, true},
		{swap("a", "1"), swap("a", "2"), api.Answer{Value: "2"}, found(""), false, true},
		{swap("a", "1"), swap("a", "2"), found(""), found(""), false, false},
		{batch(write("a", "1"), write("b", "2")), next("b"), none, told("b", "2"), true, true},
		{batch(write("a", "1"), write("b", "2")), next(""), none, none, false, true},
		{batch(write("a", "1"), write("b", "2")), next(""), none, told("b", "2"), false, false},
	} {
		overlap, apart := together(asked{x.first, x.a}, asked{x.second, x.b}), behind(asked{x.first, x.a}, asked{x.second, x.b})
		_, e := linear.Check(nil, overlap)
		if _, f := linear.Check(nil, apart); (e == api.OK) != x.check || f != e {
			t.Errorf("Check of %+v, %+v = %d, apart %d", x.first, x.second, e, f)
		}
		wantSome(t, nil, overlap, x.some)
		wantSome(t, nil, apart, x.check)
		if len(linear.Witness(overlap)) != 2 || !slices.Equal(linear.After(nil, overlap), linear.After(nil, apart)) {
			t.Errorf("%+v, %+v: the witness or what is behind it differ", x.first, x.second)
		}
	}
}

func TestWhatHadNoRoomDoesNothing(t *testing.T) { // P8.1, P8.2
	for _, code := range []api.Errno{api.ErrFull, api.ErrBusy} {
		for _, x := range kinds() {
			l := behind(asked{x.op, refusal(code)})
			for n := range 4 {
				for _, start := range [][]api.Pair{nil, several()} {
					wantCheck(t, start, l[:n], -1)
					wantAfter(t, start, l[:n], start...)
					wantSome(t, start, l[:n], true)
				}
			}
			wantWitness(t, l, x.op)
		}
		wantCheck(t, nil, behind(asked{put("a", "1"), none}, asked{del("a"), refusal(code)}, asked{get("a"), found("1")}), -1)
		wantCheck(t, nil, behind(asked{put("a", "1"), none}, asked{del("a"), refusal(code)}, asked{get("a"), none}), 7)
		// What would be refused, too.
		wantCheck(t, nil, behind(asked{get(strings.Repeat("k", 25)), refusal(code)}, asked{api.Op{}, refusal(code)}), -1)
		wantSome(t, nil, behind(asked{get(strings.Repeat("k", 25)), refusal(code)}, asked{api.Op{}, refusal(code)}), true)
	}
}

func TestNoRoomAndMoreThanTheCode(t *testing.T) { // P8.1, P8.2
	for _, code := range []api.Errno{api.ErrFull, api.ErrBusy} {
		for _, a := range []api.Answer{{Code: code, Found: true}, {Code: code, Key: "a"}, {Code: code, Value: "1"}, {Code: code, Found: true, Key: "a", Value: "1"}} {
			for _, op := range []api.Op{put("a", "1"), swap("a", "1"), batch(write("a", "1"))} {
				l := behind(asked{op, a})
				wantCheck(t, nil, l, 1)
				wantAfter(t, nil, l, has("a", "1"))
				wantWitness(t, l, op)
				wantSome(t, nil, l, false)
				wantSome(t, nil, l[:2], true)
			}
		}
	}
}

func TestOtherCodesAreTheMaps(t *testing.T) { // P8.1, P8.2
	codes := []api.Errno{math.MinInt, math.MaxInt, 256 + 5, 256 + 6, 1<<32 + 5}
	for code := api.Errno(-10); code < 110; code++ {
		codes = append(codes, code)
	}
	for _, code := range codes {
		l := behind(asked{put("a", "1"), refusal(code)})
		switch code {
		case api.ErrFull, api.ErrBusy:
			wantCheck(t, nil, l, -1)
			wantAfter(t, nil, l)
			wantSome(t, nil, l, true)
		case api.OK:
			wantCheck(t, nil, l, -1)
			wantAfter(t, nil, l, has("a", "1"))
			wantSome(t, nil, l, true)
		default:
			wantCheck(t, nil, l, 1)
			wantAfter(t, nil, l, has("a", "1"))
			wantSome(t, nil, l, false)
		}
	}
}

func TestRefusedOperations(t *testing.T) { // P8.1, P8.2
	key, value := strings.Repeat("k", 25), strings.Repeat("v", 33)
	start := append(several(), has(key, "7"))
	slices.SortFunc(start, func(a, b api.Pair) int { return strings.Compare(a.Key, b.Key) })
	for _, x := range []struct {
		op   api.Op
		code api.Errno
	}{
		{get(key), api.ErrLarge}, {put(key, "1"), api.ErrLarge}, {put("b", value), api.ErrLarge}, {del(key), api.ErrLarge},
		{swap(key, "1"), api.ErrLarge}, {swap("b", value), api.ErrLarge}, {swapOld("b", "9", value), api.ErrLarge}, {next(key), api.ErrLarge},
		{batch(gone("b"), gone(key)), api.ErrLarge}, {batch(gone("b"), write("a", value)), api.ErrLarge},
		{batch(make([]api.Write, 9)...), api.ErrLong}, {api.Op{}, api.ErrKind}, {api.Op{Kind: 7, Key: "b", Value: "9"}, api.ErrKind}, {api.Op{Kind: 255}, api.ErrKind},
	} {
		for _, pairs := range [][]api.Pair{nil, start} {
			holdOne(t, pairs, asked{x.op, refusal(x.code)}, pairs)
			wantSome(t, pairs, behind(asked{x.op, none}), false)
			wantCheck(t, pairs, behind(asked{x.op, none}), 1)
			wantCheck(t, pairs, behind(asked{x.op, refusal(api.ErrArg)}), 1)
		}
	}
}

func TestTheStart(t *testing.T) { // P8.1, P8.2
	twice := []api.Pair{has("b", "1"), has("a", "2"), has("b", "3"), has("", "4"), has("b", "5"), has("a", "6")}
	wantAfter(t, twice, nil, has("", "4"), has("a", "6"), has("b", "5"))
	l := behind(asked{get("b"), found("5")}, asked{put("a", "7"), found("6")}, asked{next(""), told("", "4")}, asked{after("a"), told("b", "5")}, asked{del("b"), found("5")}, asked{after("a"), none})
	wantCheck(t, twice, l, -1)
	wantAfter(t, twice, l, has("", "4"), has("a", "7"))
	wantSome(t, twice, l, true)
	wantCheck(t, twice, behind(asked{get("b"), found("1")}), 1)
	wantSome(t, twice, behind(asked{get("b"), found("1")}), false)
	wantCheck(t, twice, behind(asked{get("b"), found("3")}), 1)
	wantSome(t, twice, behind(asked{get("b"), found("3")}), false)
}

func TestAStartWhoseSizesNothingMayHave(t *testing.T) { // P8.1, P8.2
	key, value := strings.Repeat("k", 25), strings.Repeat("v", 33)
	start := []api.Pair{has(key, "1"), has("a", value)}
	for _, l := range [][]api.Event{
		behind(asked{get("a"), found(value)}, asked{after("a"), told(key, "1")}, asked{next(key[:24]), told(key, "1")}, asked{get(key), refusal(api.ErrLarge)}),
		together(asked{put("b", "2"), none}, asked{swap("a", "3"), api.Answer{Value: value}}, asked{after("b"), told(key, "1")}, asked{next(""), told("a", value)}, asked{del("b"), found("2")}),
	} {
		wantCheck(t, start, l, -1)
		wantAfter(t, start, l, has("a", value), has(key, "1"))
		wantSome(t, start, l, true)
	}
	wantAfter(t, start, behind(asked{del("a"), found(value)}), has(key, "1"))
	wantSome(t, start, behind(asked{next("b"), none}), false)
	wantSome(t, start, together(asked{after(key[:24]), told(key, "1")}, asked{del(key), refusal(api.ErrLarge)}), true)
	wantSome(t, start, together(asked{after(key[:24]), none}, asked{del(key), refusal(api.ErrLarge)}), false)
}

// whole is a row that is right, with an operation that is ended, one that is marked and one that has begun.
func whole() []api.Event {
	return []api.Event{begun(1, put("a", "1")), begun(2, get("b")), marked(1, none), marked(2, none), begun(3, del("c")), ended(1, none)}
}

func TestRowsThatAreNotRight(t *testing.T) { // P8.1, P8.2
	wrong := []api.Event{{}, begun(0, get("a")), begun(-1, get("a")), begun(1, get("a")), marked(9, none), ended(9, none), ended(3, none), {Kind: 4, Id: 9}, {Kind: 255, Id: 9}, {Kind: api.Begun, Id: 9, Answer: found("")}}
	for _, w := range wrong {
		for at := range len(whole()) + 1 {
			l := slices.Insert(whole(), at, w)
			if w.Id == 1 && at == 0 { // then the next one is what is there twice
				l = slices.Insert(whole(), 0, marked(1, none))
			}
			if k, e := linear.Check(several(), l); k != at || e != api.ErrOrder {
				t.Errorf("Check(%+v) = %d, %d, want %d", l, k, e, at)
			}
			wantAfter(t, several(), l)
			wantWitness(t, l)
			wantSome(t, several(), l, false)
			wantSome(t, nil, l, false)
		}
	}
	l := append(whole(), ended(2, found("x"))) // with another answer than the mark's
	if k, e := linear.Check(nil, l); k != 6 || e != api.ErrOrder {
		t.Errorf("Check = %d, %d", k, e)
	}
	wantAfter(t, nil, l)
	wantWitness(t, l)
	wantSome(t, nil, l, false)
}

func TestWhatIsNotRightCountsAheadOfWhatIsWrong(t *testing.T) { // P8.1, R2
	l := append(behind(asked{get("a"), found("")}, asked{get("b"), none}), marked(2, none))
	if k, e := linear.Check(nil, l); k != 6 || e != api.ErrOrder {
		t.Errorf("Check = %d, %d, want 6, ErrOrder", k, e)
	}
	wantCheck(t, nil, l[:6], 1)
}

func TestIdsMayBeAny(t *testing.T) { // P8.1, P8.2
	l := []api.Event{begun(math.MaxInt, put("a", "1")), marked(math.MaxInt, none), begun(1<<40, get("a")), marked(1<<40, found("1")), ended(1<<40, found("1"))}
	wantCheck(t, nil, l, -1)
	wantAfter(t, nil, l, has("a", "1"))
	wantWitness(t, l, put("a", "1"), get("a"))
	wantSome(t, nil, l, true)
}

func TestALongRow(t *testing.T) { // P8.1, R1
	var l []api.Event
	for k := range 40000 {
		key := string([]byte{byte(k), byte(k >> 8)})
		l = append(l, begun(k+1, put(key, "1")), marked(k+1, none), ended(k+1, none))
	}
	wantAt := func(at int) {
		t.Helper()
		want := api.OK
		if at >= 0 {
			want = api.ErrWrong
		}
		if k, e := linear.Check(nil, l); k != at || e != want {
			t.Errorf("Check = %d, %d, want %d, %d", k, e, at, want)
		}
	}
	wantAt(-1)
	if n := len(linear.After(nil, l)); n != 40000 {
		t.Errorf("After has %d pairs", n)
	}
	if n := len(linear.Witness(l)); n != 40000 {
		t.Errorf("Witness has %d operations", n)
	}
	if linear.Some(nil, l) {
		t.Errorf("Some of 40000 operations")
	}
	l = append(l, begun(50000, put("\x00\x00", "2")), marked(50000, none))
	wantAt(120001)
}

func TestWhatIsHandedInIsNotChanged(t *testing.T) { // R4
	row := func() []api.Event {
		return append(behind(asked{batch(write("z", "1"), gone("a"), write("c", "2")), none}, asked{put("a", "3"), none}, asked{get("a"), found("3")}), begun(8, get("spare")), api.Event{Kind: 9})
	}
	pairs := func() []api.Pair { return append(several(), has("a", "9"), has("0", "spare"), has("a", "spare")) }
	l, start := row(), pairs()
	linear.Check(start[:6], l[:9])
	linear.After(start[:6], l[:9])
	linear.Witness(l[:9])
	linear.Some(start[:6], l[:9])
	if !reflect.DeepEqual(l, row()) || !slices.Equal(start, pairs()) {
		t.Errorf("the row is now %+v, the pairs %q", l, start)
	}
}

func TestWhatIsToldIsNewMemory(t *testing.T) { // P8.1, R3, R4
	row := func() []api.Event {
		return behind(asked{batch(write("z", "1"), gone("a")), none}, asked{batch(write("z", "2")), none}, asked{batch(write("z", "2")), none})
	}
	l, start := row(), several()
	m := linear.Witness(l)
	one, two, first, second := linear.After(start, l), linear.After(start, l), linear.Witness(l), linear.Witness(l)
	want, ops := slices.Clone(two), []api.Op{l[0].Op, l[3].Op, l[6].Op}
	for k := range one {
		one[k] = has("written", "over")
	}
	for k := range first {
		for j := range first[k].Writes {
			first[k].Writes[j] = write("written", "over")
		}
		first[k] = get("written over")
	}
	m[1].Writes[0].Key = "other"
	if m[2].Writes[0].Key != "z" {
		t.Errorf("two of one answer share their Writes")
	}
	if !slices.Equal(two, want) || !sameOps(second, ops) || !reflect.DeepEqual(l, row()) || !slices.Equal(start, several()) {
		t.Errorf("what was written over is seen elsewhere")
	}
	wantAfter(t, start, l, want...)
	wantWitness(t, l, row()[0].Op, row()[3].Op, row()[6].Op)
	for k := range l {
		for j := range l[k].Op.Writes {
			l[k].Op.Writes[j] = write("q", "q")
		}
		l[k] = begun(77, get("q"))
	}
	for k := range start {
		start[k] = has("q", "q")
	}
	if !slices.Equal(two, want) || !sameOps(second, []api.Op{row()[0].Op, row()[3].Op, row()[6].Op}) {
		t.Errorf("what was told has changed with what was handed in: %q, %+v", two, second)
	}
}

func TestTextsThatAreToldAreNew(t *testing.T) { // R4
	op := api.Op{Kind: api.Swap, Key: "key", Value: "value", Old: "old", Had: true, Writes: []api.Write{write("first", "second")}}
	start := []api.Pair{has("pair", "paired")}
	l := behind(asked{op, none}, asked{put("put", "putted"), none})
	given := []string{op.Key, op.Value, op.Old, op.Writes[0].Key, op.Writes[0].Value, start[0].Key, start[0].Value, l[3].Op.Key, l[3].Op.Value}
	w, pairs := linear.Witness(l)[0], linear.After(start, l)
	answered := []string{w.Key, w.Value, w.Old, w.Writes[0].Key, w.Writes[0].Value, pairs[0].Key, pairs[0].Value, pairs[1].Key, pairs[1].Value}
	for k, s := range answered {
		if s != given[k] || unsafe.StringData(s) == unsafe.StringData(given[k]) {
			t.Errorf("%q and %q: other texts, or one memory", s, given[k])
		}
	}
}
