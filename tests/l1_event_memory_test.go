package tests

import (
	"math"
	"slices"
	"strings"
	"testing"
	"unsafe"

	"loop.example/g00269/impl"
)

// shareBytes tells whether two texts have a byte of memory in common.
func shareBytes(a string, b string) bool {
	if a == "" || b == "" {
		return false
	}
	from, to := uintptr(unsafe.Pointer(unsafe.StringData(a))), uintptr(unsafe.Pointer(unsafe.StringData(b)))
	return from < to+uintptr(len(b)) && to < from+uintptr(len(a))
}

// freshText makes the text anew, so that nothing else of the program has its memory.
func freshText(s string) string {
	return string(append([]byte(nil), s...))
}

func TestEventTextsShareNoMemory(t *testing.T) {
	e := impl.Event{Id: 3, Version: 10, Kind: impl.EvSignal, Name: freshText("pay")}
	text, _ := impl.EventBytes(e)
	if shareBytes(text, e.Name) {
		t.Error("EventBytes shares the name")
	}
	for _, s := range []string{"2.3.10.pay.", "4.1.1.a.", "6.1000.1000000." + longestName + "."} {
		s = freshText(s)
		if got, ok := impl.ReadEvent(s); !ok || shareBytes(got.Name, s) {
			t.Errorf("ReadEvent shares %q, or refuses it", s)
		}
	}
}

func TestFramesShareNoMemory(t *testing.T) {
	for _, s := range frameTexts() {
		text := freshText(s)
		f, ok := impl.FrameBytes(text)
		if !ok || shareBytes(f, text) {
			t.Fatalf("FrameBytes shares %x", s)
		}
		got, _, ok := impl.TakeFrame(f)
		if !ok || shareBytes(got, f) {
			t.Fatalf("TakeFrame shares %x", f)
		}
	}
}

func TestReadEventsSharesNoMemory(t *testing.T) {
	want := manyEvents(20)
	s := freshText(framesOf(want))
	first, _ := impl.ReadEvents(s)
	second, _ := impl.ReadEvents(s)
	for i := range first {
		if shareBytes(first[i].Name, s) {
			t.Errorf("the name of event %d lies in the argument", i)
		}
		first[i] = impl.Event{}
	}
	if !slices.Equal(second, want) {
		t.Error("two answers share their list")
	}
	if third, _ := impl.ReadEvents(s); !slices.Equal(third, want) || s != framesOf(want) {
		t.Error("an answer that was written into is told again")
	}
}

func TestEventsBytesLeavesItsListAlone(t *testing.T) {
	bad := impl.Event{Id: -1, Version: -1, Kind: -1, Name: "."}
	for _, n := range []int{0, 1, 7, impl.MaxEvents} {
		all := append(manyEvents(n), bad, bad, bad)
		kept := slices.Clone(all)
		s, ok := impl.EventsBytes(all[:n])
		if !ok || s != framesOf(kept[:n]) {
			t.Errorf("%d events: what lies behind the list is read", n)
		}
		if _, ok := impl.EventsBytes(all[:n+1]); ok {
			t.Errorf("%d events and a bad one are taken", n)
		}
		if !slices.Equal(all, kept) {
			t.Errorf("%d events: the list is written into", n)
		}
	}
	for _, l := range [][]impl.Event{nil, {}, make([]impl.Event, 0, 9)} {
		if s, ok := impl.EventsBytes(l); s != "" || !ok {
			t.Errorf("%x %v", s, ok)
		}
	}
}

// anyTexts has bytes of all kinds, drawn by a fixed rule.
func anyTexts() []string {
	l := []string{"", "\x00", "\xff", "\x3c", "\x3d", strings.Repeat("\x00", 1000), strings.Repeat("\xff", 1000), strings.Repeat("1.", 5000)}
	state := uint32(1)
	for n := range 2000 {
		b := make([]byte, n%90)
		for i := range b {
			state = state*1664525 + 1013904223
			b[i] = byte(state >> 24)
			if n%2 == 0 {
				b[i] = "0123456789.az\x00\x01\x0b"[state>>28]
			}
		}
		l = append(l, string(b))
	}
	return l
}

func TestEachFunctionAnswersAtAnyText(t *testing.T) {
	for _, s := range anyTexts() {
		kept := strings.Clone(s)
		if e, ok := impl.ReadEvent(s); ok && textOf(e) != s || !ok && e != (impl.Event{}) {
			t.Errorf("ReadEvent %x: %+v %v", s, e, ok)
		}
		if f, ok := impl.FrameBytes(s); ok != (len(s) <= 60) || ok && f != frameOf(s) || !ok && f != "" {
			t.Errorf("FrameBytes %x: %x %v", s, f, ok)
		}
		if text, n, ok := impl.TakeFrame(s); ok && s[:n] != frameOf(text) || !ok && (text != "" || n != 0) {
			t.Errorf("TakeFrame %x: %x %d %v", s, text, n, ok)
		}
		if l, n := impl.ReadEvents(s); framesOf(l) != s[:n] {
			t.Errorf("ReadEvents %x: %+v %d", s, l, n)
		}
		if n := impl.SumOf(s); n != sumByDefinition(s) {
			t.Errorf("SumOf %x: %d", s, n)
		}
		if s != kept {
			t.Errorf("%x was written into", kept)
		}
	}
}

func TestEachFunctionAnswersAtAnyEvent(t *testing.T) {
	numbers := []int{math.MinInt, -1000001, -7, -1, 0, 1, 6, 7, 1000, 1001, 1000000, 1000001, math.MaxInt}
	names := []string{"", "pay", longestName, longestName + "0", "\xff", "A", strings.Repeat("é", 1000)}
	for _, id := range numbers {
		for _, version := range numbers {
			for _, kind := range numbers {
				for i, name := range names {
					e := impl.Event{Id: id, Version: version, Kind: kind, Name: name}
					want := id >= 1 && id <= 1000 && version >= 0 && version <= 1000000 && kind >= 1 && kind <= 6 && i < 3
					text, ok := impl.EventBytes(e)
					frames, okAll := impl.EventsBytes([]impl.Event{e})
					if impl.GoodEvent(e) != want || ok != want || okAll != want {
						t.Fatalf("%+v: good is not %v", e, want)
					}
					if want && (text != textOf(e) || frames != frameOf(text)) || !want && text+frames != "" {
						t.Fatalf("%+v: %q %x", e, text, frames)
					}
				}
			}
		}
	}
}
