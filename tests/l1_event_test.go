package tests

import (
	"math"
	"slices"
	"strconv"
	"strings"
	"testing"

	"loop.example/g00269/impl"
)

const longestName = "abcxyz012789"

// edgeEvents has each bound of each field that a good event may meet, and some ordinary ones.
func edgeEvents() []impl.Event {
	var l []impl.Event
	for kind := impl.EvStart; kind <= impl.EvClose; kind++ {
		for _, id := range []int{1, 9, 10, 500, 999, 1000} {
			for _, version := range []int{0, 1, 10, 999999, 1000000} {
				for _, name := range []string{"", "a", "z", "0", "9", "pay", "007", longestName} {
					l = append(l, impl.Event{Id: id, Version: version, Kind: kind, Name: name})
				}
			}
		}
	}
	return l
}

// badEvents has one field just beyond its bounds, or far from them, in each.
func badEvents() []impl.Event {
	good := impl.Event{Id: 3, Version: 10, Kind: impl.EvSignal, Name: "pay"}
	l := []impl.Event{{}}
	for _, id := range []int{0, -1, 1001, math.MinInt, math.MaxInt} {
		e := good
		e.Id = id
		l = append(l, e)
	}
	for _, version := range []int{-1, 1000001, math.MinInt, math.MaxInt} {
		e := good
		e.Version = version
		l = append(l, e)
	}
	for _, kind := range []int{0, -1, 7, 256 + impl.EvStart, math.MinInt, math.MaxInt} {
		e := good
		e.Kind = kind
		l = append(l, e)
	}
	names := []string{
		longestName + "a", strings.Repeat("a", 100000), " ", "A", "Z", "a.b", ".", "a b", "é", "\x00", "\xff",
		"`", "{", "/", ":", "a-b", "pay\n", strings.Repeat("é", 6), "abcdefghijk.",
	}
	for _, name := range names {
		e := good
		e.Name = name
		l = append(l, e)
	}
	return l
}

// textOf writes an event's text without asking whether the event is good.
func textOf(e impl.Event) string {
	return strconv.Itoa(e.Kind) + "." + strconv.Itoa(e.Id) + "." + strconv.Itoa(e.Version) + "." + e.Name + "."
}

// sumByDefinition adds up first and takes the remainders at the end.
func sumByDefinition(s string) int {
	a, b := 0, 0
	for i := 0; i < len(s); i++ {
		a += int(s[i])
		b += int(s[i]) * (len(s) - i)
	}
	return b%255*256 + a%255
}

// frameOf writes a frame without asking whether the text is too long.
func frameOf(s string) string {
	sum := sumByDefinition(s)
	return string([]byte{byte(len(s))}) + s + string([]byte{byte(sum / 256), byte(sum % 256)})
}

func manyEvents(n int) []impl.Event {
	var l []impl.Event
	for i := range n {
		l = append(l, impl.Event{Id: i%1000 + 1, Version: i * i % 1000001, Kind: i%impl.EvClose + 1, Name: longestName[:i%13]})
	}
	return l
}

func framesOf(l []impl.Event) string {
	s := ""
	for _, e := range l {
		s += frameOf(textOf(e))
	}
	return s
}

func TestKindsAndLimitsAreAsTold(t *testing.T) {
	kinds := []int{impl.EvStart, impl.EvSignal, impl.EvTaskDone, impl.EvTimer, impl.EvCancel, impl.EvClose}
	if !slices.Equal(kinds, []int{1, 2, 3, 4, 5, 6}) {
		t.Error(kinds)
	}
	if impl.MaxEvents != 60 || impl.MaxName != 12 {
		t.Error(impl.MaxEvents, impl.MaxName)
	}
}

func TestEventTextIsWrittenOut(t *testing.T) {
	rows := []struct {
		e    impl.Event
		text string
	}{
		{impl.Event{Id: 1, Version: 0, Kind: impl.EvStart}, "1.1.0.."},
		{impl.Event{Id: 3, Version: 10, Kind: impl.EvSignal, Name: "pay"}, "2.3.10.pay."},
		{impl.Event{Id: 20, Version: 7, Kind: impl.EvTaskDone, Name: "0"}, "3.20.7.0."},
		{impl.Event{Id: 100, Version: 100, Kind: impl.EvTimer, Name: "a1"}, "4.100.100.a1."},
		{impl.Event{Id: 999, Version: 999999, Kind: impl.EvCancel}, "5.999.999999.."},
		{impl.Event{Id: 1000, Version: 1000000, Kind: impl.EvClose, Name: longestName}, "6.1000.1000000.abcxyz012789."},
	}
	for _, r := range rows {
		if s, ok := impl.EventBytes(r.e); s != r.text || !ok {
			t.Errorf("%+v: %q %v", r.e, s, ok)
		}
		if e, ok := impl.ReadEvent(r.text); e != r.e || !ok {
			t.Errorf("%q: %+v %v", r.text, e, ok)
		}
	}
}

func TestEventsComeBackFromTextAndFrame(t *testing.T) {
	for _, e := range edgeEvents() {
		if !impl.GoodEvent(e) {
			t.Fatalf("%+v is not good", e)
		}
		text, ok := impl.EventBytes(e)
		if !ok || text != textOf(e) {
			t.Fatalf("%+v: %q %v", e, text, ok)
		}
		if back, ok := impl.ReadEvent(text); !ok || back != e {
			t.Fatalf("%q: %+v %v", text, back, ok)
		}
		frames, ok := impl.EventsBytes([]impl.Event{e})
		if !ok || frames != frameOf(text) {
			t.Fatalf("%+v: %x %v", e, frames, ok)
		}
		if l, n := impl.ReadEvents(frames); n != len(frames) || !slices.Equal(l, []impl.Event{e}) {
			t.Fatalf("%x: %+v %d", frames, l, n)
		}
	}
}

func TestBadEventsAreRefused(t *testing.T) {
	good := impl.Event{Id: 1, Version: 0, Kind: impl.EvStart}
	for _, e := range badEvents() {
		if impl.GoodEvent(e) {
			t.Errorf("%+v is good", e)
		}
		if s, ok := impl.EventBytes(e); s != "" || ok {
			t.Errorf("%+v: %q %v", e, s, ok)
		}
		if back, ok := impl.ReadEvent(textOf(e)); back != (impl.Event{}) || ok {
			t.Errorf("%q: %+v %v", textOf(e), back, ok)
		}
		for _, l := range [][]impl.Event{{e}, {e, good}, {good, e}, {good, e, good}} {
			if s, ok := impl.EventsBytes(l); s != "" || ok {
				t.Errorf("%+v: %x %v", l, s, ok)
			}
		}
	}
}

func TestNamesHaveTheirBytesAlone(t *testing.T) {
	for c := range 256 {
		want := strings.Contains("abcdefghijklmnopqrstuvwxyz0123456789", string([]byte{byte(c)}))
		for at := range impl.MaxName {
			name := []byte(longestName)
			name[at] = byte(c)
			e := impl.Event{Id: 1, Version: 1, Kind: impl.EvTimer, Name: string(name)}
			if impl.GoodEvent(e) != want {
				t.Errorf("byte %d at %d: good is %v", c, at, !want)
			}
			if _, ok := impl.ReadEvent(textOf(e)); ok != want {
				t.Errorf("byte %d at %d: read is %v", c, at, !want)
			}
		}
	}
	for n := range 40 {
		e := impl.Event{Id: 1, Version: 1, Kind: impl.EvTimer, Name: strings.Repeat("q", n)}
		if impl.GoodEvent(e) != (n <= 12) {
			t.Errorf("a name of %d bytes: good is %v", n, n > 12)
		}
	}
}

func TestTextsOfNoEventAreRefused(t *testing.T) {
	texts := []string{
		"", ".", "..", "...", "....", ".....", "2", "2.", "2.3.", "2.3.10.", "2.3.10.pay", "2.3.10.pay..", "2.3.10.pay.x",
		"2.3.10.pay.\n", "2.3.10.pay. ", " 2.3.10.pay.", ".2.3.10.pay.", "2.3.10.pa.y.", "2..3.10.pay.",
		"02.3.10.pay.", "2.03.10.pay.", "2.3.010.pay.", "2.3.00.pay.", "00.3.10.pay.", "2.00.10.pay.",
		"+2.3.10.pay.", "2.+3.10.pay.", "2.3.+10.pay.", "2.3.+0.pay.", "2.3.-0.pay.", "-2.3.10.pay.", "2.-3.10.pay.", "2.3.-1.pay.",
		".3.10.pay.", "2..10.pay.", "2.3..pay.", "a.3.10.pay.", "2.b.10.pay.", "2.3.c.pay.", "2.3.1_0.pay.", "2.3.0x1.pay.",
		"2.3.1e1.pay.", "2.3. 10.pay.", "2.3.10 .pay.", "2 .3.10.pay.", "2.3,10.pay.", "2.3.10.PAY.", "2.3.10.pa y.", "2.3.10.\x00.",
		"0.3.10.pay.", "7.3.10.pay.", "2.0.10.pay.", "2.1001.10.pay.", "2.3.1000001.pay.", "2.3.10.abcdefghijklm.",
		"2.3.18446744073709551626.pay.", "18446744073709551618.3.10.pay.", "2.18446744073709551619.10.pay.",
		"2.3.99999999999999999999999999.pay.", "2.3.٣.pay.", strings.Repeat(".", 1000), strings.Repeat("1", 100000),
	}
	for _, s := range texts {
		if e, ok := impl.ReadEvent(s); e != (impl.Event{}) || ok {
			t.Errorf("%q: %+v %v", s, e, ok)
		}
		if len(s) <= 60 {
			if l, n := impl.ReadEvents(frameOf(s)); len(l) != 0 || n != 0 {
				t.Errorf("a frame of %q: %+v %d", s, l, n)
			}
		}
	}
}

// What is read must be written so again: together with the way back this leaves one event to each text.
func TestTextsThatAreNearOnesReadAsThemselves(t *testing.T) {
	check := func(s string) {
		e, ok := impl.ReadEvent(s)
		if ok && (!impl.GoodEvent(e) || textOf(e) != s) || !ok && e != (impl.Event{}) {
			t.Errorf("%q: %+v %v", s, e, ok)
		}
	}
	for _, text := range []string{"1.1.0..", "2.3.10.pay.", "6.1000.1000000." + longestName + "."} {
		for at := range len(text) + 1 {
			check(text[:at])
			check(text[at:])
			for c := range 256 {
				b := string([]byte{byte(c)})
				check(text[:at] + b + text[at:])
				if at < len(text) {
					check(text[:at] + b + text[at+1:])
				}
			}
		}
	}
}

func TestSumsAreFletchers(t *testing.T) {
	rows := []struct {
		s   string
		sum int
	}{
		{"", 0}, {"\x00", 0}, {"\xff", 0}, {"\xfe", 256*254 + 254}, {"\xfe\x01", 256 * 254}, {"\x01\xfe", 256},
		{"ab", 256*37 + 195}, {"abcde", 0xc8f0}, {"abcdef", 0x2057}, {"abcdefgh", 0x0627}, {"ba", 256*38 + 195},
		{"é", sumByDefinition("\xc3\xa9")},
	}
	for _, r := range rows {
		if n := impl.SumOf(r.s); n != r.sum {
			t.Errorf("%q: %d, not %d", r.s, n, r.sum)
		}
	}
	long := strings.Repeat("\xff\xfe\x80é", 5000)
	for _, n := range []int{1, 2, 3, 4, 5, 60, 61, 254, 255, 256, 1000, len(long)} {
		if got := impl.SumOf(long[:n]); got != sumByDefinition(long[:n]) {
			t.Errorf("%d bytes: %d, not %d", n, got, sumByDefinition(long[:n]))
		}
	}
}

// frameTexts has texts of each length that a frame may have, of unlike bytes.
func frameTexts() []string {
	var l []string
	for n := range 61 {
		plain := make([]byte, n)
		for i := range plain {
			plain[i] = byte(37*i + 11*n)
		}
		l = append(l, string(plain), strings.Repeat("\xff", n), strings.Repeat("\x00", n))
	}
	return append(l, "ab", "2.3.10.pay.")
}

func TestFramesTellTheirTexts(t *testing.T) {
	if f, ok := impl.FrameBytes(""); f != "\x00\x00\x00" || !ok {
		t.Errorf("%x %v", f, ok)
	}
	if f, ok := impl.FrameBytes("ab"); f != "\x02ab\x25\xc3" || !ok {
		t.Errorf("%x %v", f, ok)
	}
	for _, s := range frameTexts() {
		f, ok := impl.FrameBytes(s)
		if f != frameOf(s) || !ok {
			t.Fatalf("%x: %x %v", s, f, ok)
		}
		for _, behind := range []string{"", "\x00", "x", f, strings.Repeat("\xff", 300)} {
			if text, n, ok := impl.TakeFrame(f + behind); text != s || n != len(s)+3 || !ok {
				t.Fatalf("%x: %x %d %v", f+behind, text, n, ok)
			}
		}
	}
}

func TestTextsTooLongForAFrameAreRefused(t *testing.T) {
	for _, n := range []int{61, 62, 255, 256, 257, 300, 100000} {
		s := strings.Repeat("x", n)
		if f, ok := impl.FrameBytes(s); f != "" || ok {
			t.Errorf("%d bytes: %x %v", n, f, ok)
		}
		if n > 255 {
			continue // a byte cannot tell such a length
		}
		if text, size, ok := impl.TakeFrame(frameOf(s)); text != "" || size != 0 || ok {
			t.Errorf("a frame of %d bytes: %x %d %v", n, text, size, ok)
		}
	}
}

func TestFramesThatAreCutOrSpoiltAreRefused(t *testing.T) {
	refused := func(s string) {
		if text, n, ok := impl.TakeFrame(s); text != "" || n != 0 || ok {
			t.Errorf("%x: %x %d %v", s, text, n, ok)
		}
	}
	for _, s := range frameTexts() {
		f := frameOf(s)
		for cut := range len(f) {
			refused(f[:cut])
		}
		sum := sumByDefinition(s)
		for bit := range 16 {
			other := sum ^ 1<<bit
			refused(f[:1+len(s)] + string([]byte{byte(other >> 8), byte(other)}))
		}
		if sum>>8 != sum&255 {
			refused(f[:1+len(s)] + string([]byte{byte(sum), byte(sum >> 8)}))
		}
	}
	refused("\x00\xff\xff")
	refused("\x00\x00\xff")
	refused("\x00\xff\x00")
	refused("\x03ab\x25\xc3")
	refused("\x01ab\x25\xc3")
	refused("\x02ac\x25\xc3")
	refused("\x02ba\x25\xc3")
	refused("x\x02ab\x25\xc3")
}

func TestListsOfEventsComeBack(t *testing.T) {
	for n := range impl.MaxEvents + 1 {
		l := manyEvents(n)
		s, ok := impl.EventsBytes(l)
		if s != framesOf(l) || !ok {
			t.Fatalf("%d events: %x %v", n, s, ok)
		}
		if back, size := impl.ReadEvents(s); !slices.Equal(back, l) || size != len(s) {
			t.Fatalf("%d events: %+v %d", n, back, size)
		}
	}
	alike := slices.Repeat(manyEvents(5)[4:], impl.MaxEvents)
	s, ok := impl.EventsBytes(alike)
	if back, size := impl.ReadEvents(s); !ok || !slices.Equal(back, alike) || size != len(s) {
		t.Errorf("%+v %d %v", back, size, ok)
	}
}

func TestEventsBeyondTheLimit(t *testing.T) {
	for _, n := range []int{impl.MaxEvents + 1, impl.MaxEvents + 2, 500} {
		l := manyEvents(n)
		if s, ok := impl.EventsBytes(l); s != "" || ok {
			t.Errorf("%d events: %x %v", n, s, ok)
		}
		first := l[:impl.MaxEvents]
		if back, size := impl.ReadEvents(framesOf(l)); !slices.Equal(back, first) || size != len(framesOf(first)) {
			t.Errorf("%d events: %d of them, %d bytes", n, len(back), size)
		}
	}
	full := manyEvents(impl.MaxEvents)
	if back, size := impl.ReadEvents(framesOf(full) + "\x00"); !slices.Equal(back, full) || size != len(framesOf(full)) {
		t.Errorf("%d of them, %d bytes", len(back), size)
	}
}

func TestOfFramesThatAreCutTheFirstOnesComeBack(t *testing.T) {
	for _, l := range [][]impl.Event{manyEvents(1), manyEvents(7), manyEvents(impl.MaxEvents)} {
		s := framesOf(l)
		whole, end := 0, 0
		for cut := range len(s) + 1 {
			if whole < len(l) && cut == end+len(textOf(l[whole]))+3 {
				whole, end = whole+1, cut
			}
			if back, n := impl.ReadEvents(s[:cut]); !slices.Equal(back, l[:whole]) || n != end {
				t.Fatalf("cut at %d: %+v %d, not %d events of %d bytes", cut, back, n, whole, end)
			}
		}
		if whole != len(l) {
			t.Fatal("not all ends were met")
		}
	}
}

func TestReadingEndsAtTheFirstFault(t *testing.T) {
	l := manyEvents(9)
	front, back := framesOf(l[:4]), framesOf(l[4:])
	spoilt := []byte(back)
	spoilt[1] ^= 1
	wrongs := []string{
		"x", "\x00", "\x00\x00\x01", "\xff", "\x00\x00\x00", frameOf("2.3.10.pay"), frameOf("2.3.10.pay.."), frameOf("ab"),
		frameOf("02.3.10.pay."), frameOf("2.0.10.pay."), frameOf("2.3.10.Pay."), frameOf(strings.Repeat("x", 60)), frameOf(strings.Repeat("x", 61)),
	}
	for _, wrong := range wrongs {
		for _, s := range []string{front + wrong, front + wrong + back} {
			if got, n := impl.ReadEvents(s); !slices.Equal(got, l[:4]) || n != len(front) {
				t.Errorf("%x: %+v %d", s, got, n)
			}
		}
		if got, n := impl.ReadEvents(wrong + back); len(got) != 0 || n != 0 {
			t.Errorf("%x: %+v %d", wrong+back, got, n)
		}
	}
	if got, n := impl.ReadEvents(front + string(spoilt)); !slices.Equal(got, l[:4]) || n != len(front) {
		t.Errorf("%+v %d", got, n)
	}
	if got, n := impl.ReadEvents(""); len(got) != 0 || n != 0 {
		t.Errorf("%+v %d", got, n)
	}
}
