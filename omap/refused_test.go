package omap_test

import (
	"strings"
	"testing"

	"marshalling/api"
	"marshalling/omap"
)

// wantRefused holds Refused against want, and asks the map, and a nil one, too: what is refused does nothing and answers the code alone.
func wantRefused(t *testing.T, op api.Op, want api.Errno) {
	t.Helper()
	if got := omap.Refused(op); got != want {
		t.Errorf("Refused(%+v) = %d, want %d", op, got, want)
	}
	m := several()
	if got := m.Do(op); got.Code != want || want != api.OK && got != refusal(want) {
		t.Errorf("Do(%+v) = %+v, want the code %d", op, got, want)
	}
	if want != api.OK {
		wantAll(t, m, severalBut("none")...)
	}
	if got := (*omap.Map)(nil).Do(op); got.Code != want || want != api.OK && got != refusal(want) {
		t.Errorf("Do(%+v) of a nil map = %+v, want the code %d", op, got, want)
	}
}

func TestRefusedKeys(t *testing.T) { // P7.2
	for n := range 30 {
		want := api.OK
		if n > 24 {
			want = api.ErrLarge
		}
		for _, unit := range []string{"k", "\x00", "\xff"} {
			key := strings.Repeat(unit, n)
			for _, op := range []api.Op{get(key), put(key, "v"), del(key), swap(key, "v"), swapOld(key, "v", "o"), next(key), after(key), batch(write(key, "v")), batch(gone(key)), batch(gone("a"), write("b", "9"), write(key, "v"))} {
				wantRefused(t, op, want)
			}
		}
	}
	wantRefused(t, get(strings.Repeat("k", 1<<16)), api.ErrLarge)
	wantRefused(t, get("b"+strings.Repeat("\x00", 256)), api.ErrLarge)
}

func TestRefusedValues(t *testing.T) { // P7.2
	for n := range 38 {
		want := api.OK
		if n > 32 {
			want = api.ErrLarge
		}
		value := strings.Repeat("v", n)
		for _, op := range []api.Op{put("b", value), swap("b", value), swapOld("b", value, "4"), swapOld("b", "9", value), batch(write("b", value)), batch(gone("a"), write("b", "9"), write("c", value), gone("b"))} {
			wantRefused(t, op, want)
		}
		wantRefused(t, batch(api.Write{Key: "b", Value: value, Gone: true}), api.OK)
		wantRefused(t, api.Op{Kind: api.Swap, Key: "b", Value: "9", Old: value}, api.OK)
		for _, kind := range []uint8{api.Get, api.Delete, api.Next} {
			wantRefused(t, api.Op{Kind: kind, Key: "b", Value: value, Old: value, Had: true}, api.OK)
		}
		wantRefused(t, api.Op{Kind: api.Put, Key: "b", Value: "9", Old: value, Had: true}, api.OK)
	}
	wantRefused(t, put("b", strings.Repeat("v", 256)), api.ErrLarge)
	wantRefused(t, put("b", strings.Repeat("v", 1<<16)), api.ErrLarge)
}

func TestRefusedBatches(t *testing.T) { // P7.2, R2
	key, value := strings.Repeat("k", 25), strings.Repeat("v", 33)
	for n := range 12 {
		l := make([]api.Write, n)
		for k := range l {
			l[k] = write("new", string([]byte{byte('0' + k)}))
		}
		want := api.OK
		if n > 8 {
			want = api.ErrLong
		}
		wantRefused(t, batch(l...), want)
		for k := range l {
			for _, w := range []api.Write{write(key, ""), gone(key), write("", value)} {
				was := l[k]
				l[k] = w
				if want == api.OK {
					wantRefused(t, batch(l...), api.ErrLarge)
				} else {
					wantRefused(t, batch(l...), want)
				}
				l[k] = was
			}
		}
	}
	wantRefused(t, batch(make([]api.Write, 256)...), api.ErrLong)
	wantRefused(t, batch(make([]api.Write, 264)...), api.ErrLong)
	wantRefused(t, batch(), api.OK)
	wantRefused(t, api.Op{Kind: api.Batch, Key: key, Value: value, Old: value, Had: true}, api.OK)
}

func TestRefusedKinds(t *testing.T) { // P7.2
	long := strings.Repeat("x", 40)
	for kind := range 256 {
		if kind >= 1 && kind <= 6 {
			wantRefused(t, api.Op{Kind: uint8(kind), Key: "b"}, api.OK)
			continue
		}
		wantRefused(t, api.Op{Kind: uint8(kind)}, api.ErrKind)
		wantRefused(t, api.Op{Kind: uint8(kind), Key: "b", Value: "9", Had: true, Old: "4", After: true, Writes: []api.Write{gone("a")}}, api.ErrKind)
		wantRefused(t, api.Op{Kind: uint8(kind), Key: long, Value: long, Old: long, Had: true, Writes: make([]api.Write, 9)}, api.ErrKind)
	}
}
