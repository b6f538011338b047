package omap_test

import (
	"slices"
	"strings"
	"testing"
	"unsafe"

	"marshalling/api"
	"marshalling/omap"
)

var none = api.Answer{}

func get(key string) api.Op          { return api.Op{Kind: api.Get, Key: key} }
func put(key, value string) api.Op   { return api.Op{Kind: api.Put, Key: key, Value: value} }
func del(key string) api.Op          { return api.Op{Kind: api.Delete, Key: key} }
func swap(key, value string) api.Op  { return api.Op{Kind: api.Swap, Key: key, Value: value} }
func next(key string) api.Op         { return api.Op{Kind: api.Next, Key: key} }
func after(key string) api.Op        { return api.Op{Kind: api.Next, Key: key, After: true} }
func batch(l ...api.Write) api.Op    { return api.Op{Kind: api.Batch, Writes: l} }
func gone(key string) api.Write      { return api.Write{Key: key, Gone: true} }
func has(key, value string) api.Pair { return api.Pair{Key: key, Value: value} }

func write(key, value string) api.Write { return api.Write{Key: key, Value: value} }

func swapOld(key, value, old string) api.Op {
	return api.Op{Kind: api.Swap, Key: key, Value: value, Had: true, Old: old}
}

func found(value string) api.Answer { return api.Answer{Found: true, Value: value} }

func told(key, value string) api.Answer {
	return api.Answer{Found: true, Key: key, Value: value}
}

func refusal(e api.Errno) api.Answer { return api.Answer{Code: e} }

// several is a map whose keys have a beginning of another, bytes of 128 and more, and the empty one.
func several() *omap.Map {
	return omap.New([]api.Pair{has("", "e"), has("a", "1"), has("a\x00", "2"), has("ab", ""), has("b", "4"), has("b\x80", "5"), has("\xff", "6")})
}

func severalBut(key string, l ...api.Pair) []api.Pair {
	pairs := slices.DeleteFunc(several().All(), func(p api.Pair) bool { return p.Key == key })
	pairs = append(pairs, l...)
	slices.SortFunc(pairs, func(a, b api.Pair) int { return strings.Compare(a.Key, b.Key) })
	return pairs
}

func wantDo(t *testing.T, m *omap.Map, op api.Op, want api.Answer) {
	t.Helper()
	if got := m.Do(op); got != want {
		t.Errorf("Do(%+v) = %+v, want %+v", op, got, want)
	}
}

func wantAll(t *testing.T, m *omap.Map, want ...api.Pair) {
	t.Helper()
	if got := m.All(); !slices.Equal(got, want) {
		t.Errorf("All = %q, want %q", got, want)
	}
	if got := m.Len(); got != len(want) {
		t.Errorf("Len = %d, want %d", got, len(want))
	}
}

func TestNewHasThePairs(t *testing.T) { // P7.1
	wantAll(t, omap.New(nil))
	wantAll(t, omap.New([]api.Pair{}))
	wantAll(t, omap.New([]api.Pair{has("a", "1")}), has("a", "1"))
	wantAll(t, omap.New([]api.Pair{{}}), has("", ""))
	wantAll(t, omap.New([]api.Pair{has("c", "1"), has("a", "2"), has("b", "3")}), has("a", "2"), has("b", "3"), has("c", "1"))
}

func TestNewLetsTheLastOfAKeyCount(t *testing.T) { // P7.1
	wantAll(t, omap.New([]api.Pair{has("b", "1"), has("a", "2"), has("b", "3")}), has("a", "2"), has("b", "3"))
	wantAll(t, omap.New([]api.Pair{has("b", "3"), has("a", "2"), has("b", "1")}), has("a", "2"), has("b", "1"))
	wantAll(t, omap.New([]api.Pair{has("a", "1"), has("a", "1"), has("a", "")}), has("a", ""))
	var l []api.Pair
	for k := range 300 {
		l = append(l, has(string([]byte{byte(k % 7)}), strings.Repeat("v", k)))
	}
	m := omap.New(l)
	for k, p := range m.All() {
		if want := 293 + (k+7-293%7)%7; p.Key != string([]byte{byte(k)}) || len(p.Value) != want {
			t.Errorf("the pair %d: %q with %d bytes, want %d", k, p.Key, len(p.Value), want)
		}
	}
	if m.Len() != 7 {
		t.Errorf("Len = %d, want 7", m.Len())
	}
}

func TestNewAsksForNoSizes(t *testing.T) { // P7.1
	key, value := strings.Repeat("k", 25), strings.Repeat("v", 33)
	m := omap.New([]api.Pair{has(key, "1"), has("a", value), has("z", "2")})
	wantAll(t, m, has("a", value), has(key, "1"), has("z", "2"))
	wantDo(t, m, get("a"), found(value))
	wantDo(t, m, next("b"), told(key, "1"))
	wantDo(t, m, after(key[:24]), told(key, "1"))
	wantDo(t, m, get(key), refusal(api.ErrLarge))
	wantDo(t, m, del(key), refusal(api.ErrLarge))
	wantDo(t, m, after(key), refusal(api.ErrLarge))
	wantDo(t, m, swap("a", "1"), api.Answer{Value: value})
	wantDo(t, m, put("a", "1"), found(value))
	wantAll(t, m, has("a", "1"), has(key, "1"), has("z", "2"))
}

func TestAllIsInTheOrderOfBytes(t *testing.T) { // P7.1
	rising := []string{"", "\x00", "\x00\x00", "\x00\x01", "\x01", "A", "a", "a\x00", "a\x00b", "aa", "ab", "a\x7f", "a\x80", "a\xff", "b", "\x7f", "\x80", "\x80\x00", "\xc3\xa9", "\xfe\xff", "\xff", "\xff\x00", "\xff\xff"}
	var falling, pairs []api.Pair
	one := omap.New(nil)
	for k, key := range rising {
		pairs = append(pairs, has(key, rising[len(rising)-1-k]))
		falling = append([]api.Pair{pairs[k]}, falling...)
	}
	for _, p := range falling {
		wantDo(t, one, put(p.Key, p.Value), none)
	}
	wantAll(t, one, pairs...)
	wantAll(t, omap.New(falling), pairs...)
	for k := range len(rising) - 1 {
		wantDo(t, one, next(rising[k]), told(rising[k], pairs[k].Value))
		wantDo(t, one, after(rising[k]), told(rising[k+1], pairs[k+1].Value))
	}
}

func TestGet(t *testing.T) { // P7.2
	m := several()
	for _, p := range m.All() {
		wantDo(t, m, get(p.Key), found(p.Value))
	}
	for _, key := range []string{"\x00", "a\x00\x00", "aa", "abc", "b\x81", "\xfe", "\xff\x00"} {
		wantDo(t, m, get(key), none)
	}
	wantDo(t, omap.New(nil), get(""), none)
	wantAll(t, m, severalBut("none")...)
}

func TestPut(t *testing.T) { // P7.2
	for _, p := range several().All() {
		m := several()
		wantDo(t, m, put(p.Key, "new"), found(p.Value))
		wantAll(t, m, severalBut(p.Key, has(p.Key, "new"))...)
		wantDo(t, m, put(p.Key, ""), found("new"))
		wantAll(t, m, severalBut(p.Key, has(p.Key, ""))...)
	}
	for _, key := range []string{"\x00", "aa", "abc", "b\x81", "\xff\x00"} {
		m := several()
		wantDo(t, m, put(key, "new"), none)
		wantAll(t, m, severalBut("none", has(key, "new"))...)
	}
}

func TestDelete(t *testing.T) { // P7.2
	for _, p := range several().All() {
		m := several()
		wantDo(t, m, del(p.Key), found(p.Value))
		wantAll(t, m, severalBut(p.Key)...)
		wantDo(t, m, del(p.Key), none)
		wantDo(t, m, get(p.Key), none)
		wantAll(t, m, severalBut(p.Key)...)
	}
	m := several()
	wantDo(t, m, del("aa"), none)
	wantAll(t, m, severalBut("none")...)
	for _, p := range several().All() {
		wantDo(t, m, del(p.Key), found(p.Value))
	}
	wantAll(t, m)
	wantDo(t, m, put("a", "1"), none)
	wantAll(t, m, has("a", "1"))
}

func TestSwapWithoutHad(t *testing.T) { // P7.2
	m := several()
	wantDo(t, m, swap("aa", "new"), found(""))
	wantAll(t, m, severalBut("none", has("aa", "new"))...)
	wantDo(t, m, swap("aa", "newer"), api.Answer{Value: "new"})
	wantDo(t, m, swap("ab", "new"), none)
	wantAll(t, m, severalBut("none", has("aa", "new"))...)
	wantDo(t, omap.New(nil), swap("", ""), found(""))
}

func TestSwapWithHad(t *testing.T) { // P7.2
	m := several()
	wantDo(t, m, swapOld("b", "new", "4"), found("4"))
	wantAll(t, m, severalBut("b", has("b", "new"))...)
	wantDo(t, m, swapOld("b", "newer", "4"), api.Answer{Value: "new"})
	wantDo(t, m, swapOld("b", "newer", ""), api.Answer{Value: "new"})
	wantDo(t, m, swapOld("b", "newer", "new\x00"), api.Answer{Value: "new"})
	wantDo(t, m, swapOld("aa", "new", ""), none)
	wantDo(t, m, swapOld("aa", "new", "4"), none)
	wantAll(t, m, severalBut("b", has("b", "new"))...)
	wantDo(t, m, swapOld("b", "new", "new"), found("new"))
	wantDo(t, m, swapOld("b", "", "new"), found("new"))
	wantDo(t, m, swapOld("ab", "full", ""), found(""))
	wantDo(t, m, swapOld("ab", "fuller", ""), api.Answer{Value: "full"})
}

func TestNext(t *testing.T) { // P7.2
	m := several()
	l := m.All()
	for k, p := range l {
		wantDo(t, m, next(p.Key), told(p.Key, p.Value))
		if k > 0 {
			wantDo(t, m, after(l[k-1].Key), told(p.Key, p.Value))
		}
	}
	wantDo(t, m, next("\x00"), told("a", "1"))
	wantDo(t, m, after("\x00"), told("a", "1"))
	wantDo(t, m, next("a\x00\x00"), told("ab", ""))
	wantDo(t, m, after("a\x00\x00"), told("ab", ""))
	wantDo(t, m, next("b\x7f"), told("b\x80", "5"))
	wantDo(t, m, next("c"), told("\xff", "6"))
	wantDo(t, m, after("\xff"), none)
	wantDo(t, m, next("\xff\x00"), none)
	wantDo(t, m, after("\xff\x00"), none)
	wantDo(t, omap.New(nil), next(""), none)
	wantDo(t, omap.New(nil), after(""), none)
	wantAll(t, m, severalBut("none")...)
}

func TestBatchIsItsWritesInTheirRow(t *testing.T) { // P7.2, P7.4
	m := several()
	wantDo(t, m, batch(), none)
	wantDo(t, m, batch(gone("none"), gone("none")), none)
	wantAll(t, m, severalBut("none")...)
	wantDo(t, m, batch(gone("b"), write("d", "7"), write("d", "8")), none)
	wantAll(t, m, severalBut("b", has("d", "8"))...)
	wantDo(t, m, batch(write("d", "9"), gone("d"), gone("a"), write("a", "9"), write("", ""), write("e", "1"), gone("e"), write("e", "2")), none)
	wantAll(t, m, has("", ""), has("a", "9"), has("a\x00", "2"), has("ab", ""), has("b\x80", "5"), has("e", "2"), has("\xff", "6"))
	wantDo(t, m, batch(api.Write{Key: "e", Value: "not looked at", Gone: true}), none)
	wantDo(t, m, get("e"), none)
}

func TestTheExamples(t *testing.T) { // P7.1, P7.2
	m := omap.New(nil)
	wantDo(t, m, put("b", "1"), none)
	wantDo(t, m, put("b", "2"), found("1"))
	wantDo(t, m, get("b"), found("2"))
	wantDo(t, m, get("c"), none)
	wantDo(t, m, swapOld("b", "3", "2"), found("2"))
	wantDo(t, m, swapOld("b", "4", "2"), api.Answer{Value: "3"})
	wantDo(t, m, swap("c", "5"), found(""))
	wantDo(t, m, swap("c", "6"), api.Answer{Value: "5"})
	wantDo(t, m, next("a"), told("b", "3"))
	wantDo(t, m, next("b"), told("b", "3"))
	wantDo(t, m, after("b"), told("c", "5"))
	wantDo(t, m, after("c"), none)
	wantDo(t, m, batch(gone("b"), write("d", "7"), write("d", "8")), none)
	wantAll(t, m, has("c", "5"), has("d", "8"))
	wantDo(t, m, batch(make([]api.Write, 9)...), refusal(api.ErrLong))
}

func TestFieldsThatAreNotNamedAreNotLookedAt(t *testing.T) { // P7.2
	long := strings.Repeat("x", 40)
	full := api.Op{Key: "b", Value: long, Old: long, Had: true, After: true, Writes: make([]api.Write, 9)}
	as := func(kind uint8) api.Op { op := full; op.Kind = kind; return op }
	m := several()
	wantDo(t, m, as(api.Get), found("4"))
	op := as(api.Put)
	op.Value = "new"
	wantDo(t, m, op, found("4"))
	wantDo(t, m, as(api.Delete), found("new"))
	op = as(api.Swap)
	op.Value, op.Had = "new", false
	wantDo(t, m, op, found(""))
	op.Had, op.Old, op.Value = true, "new", "newer"
	wantDo(t, m, op, found("new"))
	wantDo(t, m, as(api.Next), told("b\x80", "5"))
	op = as(api.Next)
	op.After = false
	wantDo(t, m, op, told("b", "newer"))
	op = as(api.Batch)
	op.Key, op.Writes = long, []api.Write{gone("b")}
	wantDo(t, m, op, none)
	wantAll(t, m, severalBut("b")...)
}

// kinds has one operation of each kind, which a map could do.
func kinds() []api.Op {
	return []api.Op{
		get("a"), put("a", "1"), del("a"), swap("a", "1"), swapOld("a", "1", ""), next(""), after(""), batch(), batch(write("a", "1"), gone("b")),
	}
}

func TestANilMapAnswersAsAnEmptyOne(t *testing.T) { // P7.3, R1
	var m *omap.Map
	long := strings.Repeat("k", 25)
	refused := []api.Op{get(long), put(long, ""), del(long), swap(long, ""), next(long), batch(gone(long)), batch(make([]api.Write, 9)...), {}, {Kind: 7}}
	for _, op := range append(kinds(), refused...) {
		wantDo(t, m, op, omap.New(nil).Do(op))
		wantAll(t, m)
		wantDo(t, m, get("a"), none)
		wantDo(t, m, next(""), none)
	}
	wantDo(t, m, put("a", "1"), none)
	wantDo(t, m, swap("a", "1"), found(""))
	wantDo(t, m, put("a", "1"), none)
	wantDo(t, m, put(long, ""), refusal(api.ErrLarge))
	wantDo(t, m, api.Op{}, refusal(api.ErrKind))
}

func TestAMapThatNewDidNotMakeIsAnEmptyOne(t *testing.T) { // R1
	var m omap.Map
	wantAll(t, &m)
	wantDo(t, &m, del("a"), none)
	wantDo(t, &m, next(""), none)
	wantDo(t, &m, put("a", "1"), none)
	wantAll(t, &m, has("a", "1"))
}

func TestMapsKnowNothingOfOneAnother(t *testing.T) { // R3
	l := []api.Pair{has("a", "1"), has("b", "2")}
	one, two := omap.New(l), omap.New(l)
	three := omap.New(one.All())
	wantDo(t, one, put("a", "3"), found("1"))
	wantDo(t, two, del("a"), found("1"))
	wantAll(t, one, has("a", "3"), has("b", "2"))
	wantAll(t, two, has("b", "2"))
	wantAll(t, three, has("a", "1"), has("b", "2"))
}

func TestWhatIsHandedInIsNeitherChangedNorKept(t *testing.T) { // R4
	room := []api.Pair{has("b", "1"), has("a", "2"), has("b", "3"), has("spare", "4")}
	l := room[:3]
	m := omap.New(l)
	want := []api.Pair{has("b", "1"), has("a", "2"), has("b", "3"), has("spare", "4")}
	if !slices.Equal(room, want) {
		t.Errorf("New has made %q of what it was handed", room)
	}
	for k := range room {
		room[k] = has("x", "9")
	}
	wantAll(t, m, has("a", "2"), has("b", "3"))
	writes := []api.Write{write("c", "1"), gone("a"), write("c", "2"), write("spare", "3")}
	wantDo(t, m, batch(writes[:3]...), none)
	if !slices.Equal(writes, []api.Write{write("c", "1"), gone("a"), write("c", "2"), write("spare", "3")}) {
		t.Errorf("Do has made %v of what it was handed", writes)
	}
	for k := range writes {
		writes[k] = write("x", "9")
	}
	wantAll(t, m, has("b", "3"), has("c", "2"))
}

func TestWhatAllTellsIsNewMemory(t *testing.T) { // P7.1, R4
	m := several()
	l, more := m.All(), m.All()
	for k := range l {
		l[k] = has("x", "9")
	}
	_ = append(l[:0:cap(l)], has("y", "9"))
	wantAll(t, m, severalBut("none")...)
	if !slices.Equal(more, severalBut("none")) {
		t.Errorf("one list of All was written over by another one: %q", more)
	}
	wantDo(t, m, put("a", "7"), found("1"))
	wantDo(t, m, del("b"), found("4"))
	if !slices.Equal(more, severalBut("none")) {
		t.Errorf("a list of All has changed with its map: %q", more)
	}
}

// shares tells whether the two texts stand in the same memory.
func shares(a, b string) bool { return unsafe.StringData(a) == unsafe.StringData(b) }

func TestTextsAreNewMemoryToo(t *testing.T) { // R4
	fresh := func(s string) string { return strings.Clone(s) }
	handed := []api.Pair{has(fresh("a"), fresh("1"))}
	m := omap.New(handed)
	ops := []api.Op{put(fresh("b"), fresh("2")), swap(fresh("c"), fresh("3")), swapOld("c", fresh("4"), "3"), batch(write(fresh("d"), fresh("5")), write("a", fresh("6")))}
	in := []string{handed[0].Key, handed[0].Value}
	for _, op := range ops {
		m.Do(op)
		in = append(in, op.Key, op.Value)
		for _, w := range op.Writes {
			in = append(in, w.Key, w.Value)
		}
	}
	var out []string
	for range 2 {
		for _, p := range m.All() {
			out = append(out, p.Key, p.Value)
			out = append(out, m.Do(get(p.Key)).Value, m.Do(swap(p.Key, "")).Value)
			a := m.Do(next(p.Key))
			out = append(out, a.Key, a.Value)
			had := m.Do(put(p.Key, a.Value)).Value
			out = append(out, had)
		}
	}
	for k, s := range out {
		for _, o := range append(in, out[k+1:]...) {
			if s != "" && o != "" && shares(s, o) {
				t.Errorf("%q was told twice, or told as it was handed in, in the same memory", s)
			}
		}
	}
	if len(out) != 2*4*7 {
		t.Errorf("%d texts were told", len(out))
	}
}

func TestTextsThatAreHandedInAreNotKept(t *testing.T) { // R4
	var handed [][]byte
	// What a text stands in may be written over where nobody keeps the text.
	in := func(s string) string {
		b := []byte(s)
		handed = append(handed, b)
		return unsafe.String(&b[0], len(b))
	}
	m := omap.New([]api.Pair{has(in("a"), in("1")), has(in("b"), in("2"))})
	m.Do(put(in("c"), in("3")))
	m.Do(swap(in("d"), in("4")))
	m.Do(swapOld("b", in("5"), "2"))
	m.Do(batch(write(in("e"), in("6")), write("a", in("7"))))
	for _, b := range handed {
		b[0] = 'x'
	}
	wantAll(t, m, has("a", "7"), has("b", "5"), has("c", "3"), has("d", "4"), has("e", "6"))
}
