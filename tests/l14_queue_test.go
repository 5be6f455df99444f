package tests

import (
	"math"
	"slices"
	"strings"
	"sync"
	"testing"

	"loop.example/g00269/impl"
)

// noWindows are numbers that no window is.
var noWindows = append([]int{0, -1, -2, -10, 11, 12, 20, 256}, farNumbers...)

// noLineKinds are numbers that no kind of step has.
var noLineKinds = append([]int{0, -1, -5, 6, 7, 256}, farNumbers...)

// noLineTexts are texts of more than 12 bytes.
var noLineTexts = []string{longestText + "a", strings.Repeat("x", 13), strings.Repeat("\x00", 13), strings.Repeat("é", 7), strings.Repeat("a", 100000)}

// holdQueue holds all that is told of one good queue, and all steps with numbers at and about its edges.
func holdQueue(t *testing.T, q impl.Queue) {
	t.Helper()
	if !impl.GoodQueue(q) {
		t.Fatalf("GoodQueue refuses %#v", q)
	}
	if waiting, ok := impl.WaitingIn(q); !ok || waiting != len(q.Sent)-len(q.Got) {
		t.Fatalf("WaitingIn %#v: %d, %v", q, waiting, ok)
	}
	holdDrain(t, q)
	for _, s := range stepsAbout(q) {
		holdLineStep(t, q, s)
	}
}

// stepsAbout tells steps of each kind with numbers at and about all edges of a queue.
func stepsAbout(q impl.Queue) []impl.LineStep {
	numbers := []int{
		-1, 0, 1, q.Base - 1, q.Base, q.Base + 1, q.Base + q.Window - 1, q.Base + q.Window, q.Window, len(q.Got),
		len(q.Sent) - 1, len(q.Sent), len(q.Line) / 2, len(q.Line) - 1, len(q.Line), len(q.Line) + 1, 39, 40, 41, math.MinInt, math.MaxInt,
	}
	slices.Sort(numbers)
	var l []impl.LineStep
	for _, k := range slices.Compact(numbers) {
		for kind := impl.LinePut - 1; kind <= impl.LineTwice+1; kind++ {
			l = append(l, impl.LineStep{Kind: kind, K: k})
		}
	}
	for _, text := range append([]string{"", "a", "\x00", longestText}, noLineTexts...) {
		l = append(l, impl.LineStep{Kind: impl.LinePut, Text: text})
	}
	return l
}

// holdLineStep holds one step at a good queue, and promise 14 behind it; it tells the queue behind it, which is the one ahead where nothing is done.
func holdLineStep(t *testing.T, q impl.Queue, s impl.LineStep) (impl.Queue, bool) {
	t.Helper()
	want, can := stepByWords(q, s)
	after, ok := impl.StepQueue(q, s)
	if ok != can || !sameQueues(after, want) {
		t.Fatalf("StepQueue %#v, %#v: %#v, %v, not %#v, %v", q, s, after, ok, want, can)
	}
	if !ok {
		return q, false
	}
	holdBeginning(t, after)
	// What was sent, has come and is known to have come stays so.
	if after.Base < q.Base || len(after.Got) < len(q.Got) || !slices.Equal(after.Sent[:len(q.Sent)], q.Sent) || after.Window != q.Window {
		t.Fatalf("StepQueue %#v, %#v: %#v has less", q, s, after)
	}
	return after, true
}

// holdBeginning holds promise 14: what has come is a beginning of what was sent, and no more is known to have come.
func holdBeginning(t *testing.T, q impl.Queue) {
	t.Helper()
	if !impl.GoodQueue(q) {
		t.Fatalf("GoodQueue refuses %#v, which steps made", q)
	}
	if len(q.Got) > len(q.Sent) || !slices.Equal(q.Got, q.Sent[:len(q.Got)]) || q.Base < 0 || q.Base > len(q.Got) {
		t.Fatalf("%#v: what has come is no beginning of what was sent", q)
	}
}

func holdDrain(t *testing.T, q impl.Queue) {
	t.Helper()
	want := q
	steps, wantSends := drainSteps(q)
	for _, s := range steps {
		want, _ = stepByWords(want, s)
	}
	after, sends, ok := impl.DrainQueue(q)
	if !ok || sends != wantSends || !sameQueues(after, want) {
		t.Fatalf("DrainQueue %#v: %#v, %d, %v, not %#v, %d", q, after, sends, ok, want, wantSends)
	}
	// All has come, in order, once, and is known to have come.
	if !slices.Equal(after.Got, q.Sent) || !slices.Equal(after.Sent, q.Sent) || after.Base != len(q.Sent) || after.Window != q.Window {
		t.Fatalf("DrainQueue %#v: %#v", q, after)
	}
	holdBeginning(t, after)
	if waiting, ok := impl.WaitingIn(after); !ok || waiting != 0 {
		t.Fatalf("DrainQueue %#v: %d wait, %v", q, waiting, ok)
	}
	if again, sends, ok := impl.DrainQueue(after); !ok || sends != 0 || !sameQueues(again, after) {
		t.Fatalf("DrainQueue of %#v, which is drained: %#v, %d, %v", after, again, sends, ok)
	}
}

// holdQueueRefused holds the zero answer of each function where a queue is not good.
func holdQueueRefused(t *testing.T, q impl.Queue) {
	t.Helper()
	if impl.GoodQueue(q) {
		t.Fatalf("GoodQueue takes %#v", q)
	}
	if waiting, ok := impl.WaitingIn(q); waiting != 0 || ok {
		t.Fatalf("WaitingIn %#v: %d, %v", q, waiting, ok)
	}
	if after, sends, ok := impl.DrainQueue(q); !isZeroQueue(after) || sends != 0 || ok {
		t.Fatalf("DrainQueue %#v: %#v, %d, %v", q, after, sends, ok)
	}
	for kind := impl.LinePut - 1; kind <= impl.LineTwice+1; kind++ {
		for _, k := range []int{math.MinInt, -1, 0, 1, q.Base, len(q.Line) - 1, len(q.Line), math.MaxInt} {
			if after, ok := impl.StepQueue(q, impl.LineStep{Kind: kind, K: k, Text: "a"}); !isZeroQueue(after) || ok {
				t.Fatalf("StepQueue %#v, %d of %d: %#v, %v", q, kind, k, after, ok)
			}
		}
	}
}

// holdEitherQueue holds a queue by whether the words call it good; it tells that.
func holdEitherQueue(t *testing.T, q impl.Queue) bool {
	t.Helper()
	if goodQueueByWords(q) {
		holdQueue(t, q)
		return true
	}
	holdQueueRefused(t, q)
	return false
}

// holdLinePlay holds a play whole, step by step and, of each beginning of it, that what follows does not count.
func holdLinePlay(t *testing.T, window int, l []impl.LineStep) impl.Queue {
	t.Helper()
	way, wantDid := playQueueByWords(window, l)
	q, did, ok := impl.PlayQueue(window, l)
	if !ok || !sameQueues(q, way[len(l)]) || !slices.Equal(did, wantDid) {
		t.Fatalf("PlayQueue %d, %#v: %#v, %v, %v, not %#v, %v", window, l, q, did, ok, way[len(l)], wantDid)
	}
	one, ok := impl.NewQueue(window)
	if !ok {
		t.Fatalf("NewQueue %d: false", window)
	}
	for i, s := range l {
		var can bool
		if one, can = holdLineStep(t, one, s); can != did[i] {
			t.Fatalf("PlayQueue %d, %#v: step %d was done: %v", window, l, i, did[i])
		}
	}
	if !sameQueues(one, q) {
		t.Fatalf("PlayQueue %d, %#v: %#v, step by step %#v", window, l, q, one)
	}
	return q
}

func holdLinePlayRefused(t *testing.T, window int, l []impl.LineStep) {
	t.Helper()
	if q, did, ok := impl.PlayQueue(window, l); !isZeroQueue(q) || len(did) != 0 || ok {
		t.Fatalf("PlayQueue %d of %d steps: %#v, %v, %v", window, len(l), q, did, ok)
	}
}

func TestQueuesAreAsTold(t *testing.T) {
	if impl.MaxSent != 40 || impl.MaxLine != 40 || impl.MaxLineSteps != 200 || len(longestText) != 12 {
		t.Error(impl.MaxSent, impl.MaxLine, impl.MaxLineSteps, len(longestText))
	}
	if impl.LinePut != 1 || impl.LineSend != 2 || impl.LineTake != 3 || impl.LineLose != 4 || impl.LineTwice != 5 {
		t.Error(impl.LinePut, impl.LineSend, impl.LineTake, impl.LineLose, impl.LineTwice)
	}
	lengths := map[int]bool{}
	for _, text := range textsUpTo(40) {
		lengths[len(text)] = true
	}
	if !lengths[0] || !lengths[12] || len(lengths) < 4 {
		t.Error(lengths)
	}
}

func TestNewQueues(t *testing.T) {
	for window := 1; window <= 10; window++ {
		q, ok := impl.NewQueue(window)
		if !ok || !sameQueues(q, impl.Queue{Window: window}) {
			t.Errorf("NewQueue %d: %#v, %v", window, q, ok)
		}
		holdQueue(t, q)
		holdQueue(t, impl.Queue{Window: window, Sent: []string{}, Got: []string{}, Line: []impl.Packet{}})
	}
	for _, window := range noWindows {
		if q, ok := impl.NewQueue(window); ok || !isZeroQueue(q) {
			t.Errorf("NewQueue %d: %#v, %v", window, q, ok)
		}
		holdLinePlayRefused(t, window, nil)
		holdLinePlayRefused(t, window, []impl.LineStep{{Kind: impl.LinePut, Text: "a"}})
		holdQueueRefused(t, impl.Queue{Window: window})
		holdQueueRefused(t, queueOf(window, 3, 1, 0, ackOf(1)))
	}
	holdQueueRefused(t, impl.Queue{})
}

// Queues at each bound that the document names, and one beyond it.
func TestEdgesOfQueues(t *testing.T) {
	for _, c := range []struct {
		why  string
		q    impl.Queue
		good bool
	}{
		{"a Window of 1", queueOf(1, 2, 1, 1, packetOf(1)), true},
		{"a Window of 10", queueOf(10, 12, 1, 1, packetOf(10)), true},
		{"MaxSent texts", queueOf(3, 40, 0, 0), true},
		{"one more text", queueOf(3, 41, 0, 0), false},
		{"a Base of 0", queueOf(3, 9, 5, 0), true},
		{"a Base of how many have come", queueOf(3, 9, 5, 5), true},
		{"a Base of one more", queueOf(3, 9, 5, 6), false},
		{"a Base of 1 where nothing has come", queueOf(3, 9, 0, 1), false},
		{"a Base below 0", queueOf(3, 9, 5, -1), false},
		{"a Base of all that was sent, which has not come", queueOf(3, 9, 5, 9), false},
		{"the greatest Base", queueOf(10, 9, 5, math.MaxInt), false},
		{"the least Base", queueOf(10, 9, 5, math.MinInt), false},
		{"Got with nothing", queueOf(3, 9, 0, 0), true},
		{"Got with all", queueOf(3, 9, 9, 0), true},
		{"Got with all of MaxSent", queueOf(3, 40, 40, 40), true},
		{"Got with more than Sent", impl.Queue{Window: 3, Sent: []string{"a"}, Got: []string{"a", "b"}}, false},
		{"Got where nothing was sent", impl.Queue{Window: 3, Got: []string{""}}, false},
		{"Got with another text at the front", impl.Queue{Window: 3, Sent: []string{"a", "b"}, Got: []string{"b"}}, false},
		{"Got with another text behind", impl.Queue{Window: 3, Sent: []string{"a", "b", "c"}, Got: []string{"a", "c"}}, false},
		{"Got with a part of a text", impl.Queue{Window: 3, Sent: []string{"ab"}, Got: []string{"a"}}, false},
		{"Got with texts turned about", impl.Queue{Window: 3, Sent: []string{"a", "b"}, Got: []string{"b", "a"}}, false},
		{"Got with a text twice", impl.Queue{Window: 3, Sent: []string{"a", "b"}, Got: []string{"a", "a"}}, false},
		{"MaxLine packets", queueOf(3, 2, 1, 0, slices.Repeat([]impl.Packet{packetOf(1)}, 40)...), true},
		{"one more packet", queueOf(3, 2, 1, 0, slices.Repeat([]impl.Packet{packetOf(1)}, 41)...), false},
		{"MaxLine Acks where nothing was sent", queueOf(3, 0, 0, 0, slices.Repeat([]impl.Packet{ackOf(0)}, 40)...), true},
		{"one more Ack", queueOf(3, 0, 0, 0, slices.Repeat([]impl.Packet{ackOf(0)}, 41)...), false},
		{"an Ack of 0", queueOf(3, 9, 5, 4, ackOf(0)), true},
		{"an Ack of how many have come", queueOf(3, 9, 5, 4, ackOf(5)), true},
		{"an Ack of one more", queueOf(3, 9, 5, 4, ackOf(6)), false},
		{"an Ack of 1 where nothing has come", queueOf(3, 9, 0, 0, ackOf(1)), false},
		{"an Ack below 0", queueOf(3, 9, 5, 4, ackOf(-1)), false},
		{"the greatest Ack", queueOf(3, 9, 5, 4, ackOf(math.MaxInt)), false},
		{"the least Ack", queueOf(3, 9, 5, 4, ackOf(math.MinInt)), false},
		{"an Ack with a Text", queueOf(3, 9, 5, 4, impl.Packet{Ack: true, No: 0, Text: "t0"}), false},
		{"an Ack with a Text of one byte", queueOf(3, 9, 5, 4, impl.Packet{Ack: true, No: 5, Text: "\x00"}), false},
		{"a packet of 0", queueOf(3, 9, 5, 5, packetOf(0)), true},
		{"the last packet", queueOf(10, 9, 5, 0, packetOf(8)), true},
		{"a packet behind the last one", queueOf(10, 9, 5, 0, packetOf(9)), false},
		{"a packet behind the last one, with no Text", queueOf(10, 9, 5, 0, impl.Packet{No: 9}), false},
		{"a packet below 0", queueOf(10, 9, 5, 0, impl.Packet{No: -1}), false},
		{"a packet where nothing was sent", queueOf(10, 0, 0, 0, impl.Packet{}), false},
		{"the greatest packet", queueOf(10, 9, 5, 0, impl.Packet{No: math.MaxInt}), false},
		{"the least packet", queueOf(10, 9, 5, 0, impl.Packet{No: math.MinInt}), false},
		{"a packet below Base and Window", queueOf(3, 9, 5, 4, packetOf(6)), true},
		{"a packet at Base and Window", queueOf(3, 9, 5, 4, packetOf(7)), false},
		{"a packet behind Base and Window", queueOf(3, 9, 5, 4, packetOf(8)), false},
		{"a packet below a Window of 1", queueOf(1, 9, 5, 5, packetOf(5)), true},
		{"a packet at a Window of 1", queueOf(1, 9, 5, 5, packetOf(6)), false},
		{"a packet that has come, at Base and Window", queueOf(2, 9, 5, 1, packetOf(3)), false},
		{"a packet that has come, below Base and Window", queueOf(2, 9, 5, 1, packetOf(2)), true},
		{"a packet with another Text", queueOf(3, 9, 5, 4, impl.Packet{No: 5, Text: "t4"}), false},
		{"a packet with no Text", queueOf(3, 9, 5, 4, impl.Packet{No: 5}), false},
		{"a packet with a Text more", queueOf(3, 9, 5, 4, impl.Packet{No: 5, Text: "t5 "}), false},
		{"a packet with a Text where there is none", queueOf(3, 9, 5, 4, impl.Packet{No: 6, Text: "a"}), false},
		{"a wrong packet behind good ones", queueOf(3, 9, 5, 4, packetOf(5), ackOf(5), packetOf(7)), false},
		{"a wrong packet ahead of good ones", queueOf(3, 9, 5, 4, ackOf(6), ackOf(5), packetOf(5)), false},
	} {
		if is := holdEitherQueue(t, c.q); is != c.good {
			t.Errorf("%s: the words tell %v of %#v", c.why, is, c.q)
		}
	}
}

func TestTextsOfQueues(t *testing.T) {
	for _, text := range []string{"", "a", " ", "A.b", "\x00", "\xff", "é", strings.Repeat("\xff", 11), strings.Repeat("\xff", 12), longestText} {
		sent := []string{"b", text, "c", text}
		for got := range 5 {
			holdQueue(t, impl.Queue{Window: 4, Sent: sent, Got: sent[:got], Line: []impl.Packet{{No: 1, Text: text}, {No: 3, Text: text}}})
		}
	}
	for _, text := range noLineTexts {
		for place := range 4 {
			q := queueOf(4, 4, 0, 0)
			q.Sent[place] = text
			holdQueueRefused(t, q)
			q.Got = slices.Clone(q.Sent)
			holdQueueRefused(t, q)
			q.Line = []impl.Packet{{No: place, Text: text}}
			holdQueueRefused(t, q)
		}
	}
}

// badQueues have one thing that is not as said, at each place.
func badQueues() []impl.Queue {
	bad := []impl.Queue{{}, {Window: -1}, {Window: 11}, queueOf(1, 41, 0, 0), queueOf(10, 41, 41, 41)}
	for _, good := range []impl.Queue{
		queueOf(2, 1, 1, 0, packetOf(0)),
		queueOf(3, 6, 3, 2, ackOf(3), packetOf(4), packetOf(0), ackOf(0)),
		queueOf(10, 40, 20, 20, slices.Repeat([]impl.Packet{packetOf(29), ackOf(20)}, 20)...),
	} {
		change := func(do func(q *impl.Queue)) {
			q := copyQueue(good)
			do(&q)
			bad = append(bad, q)
		}
		for _, n := range []int{0, -1, 11, math.MinInt, math.MaxInt} {
			change(func(q *impl.Queue) { q.Window = n })
		}
		for _, n := range []int{-1, len(good.Got) + 1, math.MinInt, math.MaxInt} {
			change(func(q *impl.Queue) { q.Base = n })
		}
		for place := range good.Got {
			change(func(q *impl.Queue) { q.Got[place] += "?" })
		}
		for place := len(good.Got); place < len(good.Sent); place++ {
			change(func(q *impl.Queue) { q.Sent[place] = strings.Repeat("x", 13) })
		}
		for place := range good.Line {
			for _, n := range []int{-1, 40, math.MinInt, math.MaxInt} {
				change(func(q *impl.Queue) { q.Line[place].No = n })
			}
			change(func(q *impl.Queue) { q.Line[place].Text += "?" })
		}
		change(func(q *impl.Queue) { q.Line = slices.Repeat(q.Line[:1], 41) })
		change(func(q *impl.Queue) { q.Got = append(q.Got, slices.Repeat([]string{"t"}, len(q.Sent))...) })
	}
	return bad
}

func TestBadQueues(t *testing.T) {
	for _, q := range badQueues() {
		if goodQueueByWords(q) {
			t.Fatalf("%#v is to be bad", q)
		}
		holdQueueRefused(t, q)
	}
}

// All queues of few texts with each Window, Base and Got out of a few, and each packet out of a few on the line, good or not.
func TestEveryFewQueues(t *testing.T) {
	good, bad := 0, 0
	var lines [][]impl.Packet
	for _, ack := range []bool{false, true} {
		for no := -1; no <= 3; no++ {
			for _, text := range []string{"", "a", "b"} {
				p := impl.Packet{Ack: ack, No: no, Text: text}
				lines = append(lines, []impl.Packet{p}, []impl.Packet{ackOf(0), p})
			}
		}
	}
	lines = append(lines, nil)
	texts := [][]string{nil, {"a"}, {"b"}, {"a", "b"}, {"a", "a"}, {"a", "b", ""}}
	for _, window := range []int{0, 1, 2, 10} {
		for _, sent := range texts {
			for _, got := range texts {
				for base := -1; base <= 3; base++ {
					for _, line := range lines {
						if holdEitherQueue(t, impl.Queue{Window: window, Sent: sent, Base: base, Got: got, Line: line}) {
							good++
						} else {
							bad++
						}
					}
				}
			}
		}
	}
	if good < 500 || bad < 5000 {
		t.Error(good, bad)
	}
}

// keyOf tells unlike texts of unlike queues that have the same texts sent.
func keyOf(q impl.Queue) string {
	var b strings.Builder
	for _, n := range []int{len(q.Sent), q.Base, len(q.Got)} {
		b.WriteByte(byte('0' + n))
	}
	for _, p := range q.Line {
		b.WriteByte(byte(map[bool]int{false: 'A', true: 'a'}[p.Ack] + p.No))
	}
	return b.String()
}

// Promise 14, of all ways that a line may go: whatever it loses, doubles and turns about, of few texts and packets.
func TestEveryWayOfALine(t *testing.T) {
	for _, c := range []struct{ window, sent, line int }{{1, 2, 4}, {2, 2, 4}, {2, 3, 3}, {3, 3, 3}, {10, 3, 2}} {
		first, _ := impl.NewQueue(c.window)
		met := map[string]bool{keyOf(first): true}
		whole := false
		for open := []impl.Queue{first}; len(open) > 0; open = open[1:] {
			q := open[0]
			whole = whole || q.Base == c.sent
			holdDrain(t, q)
			for kind := impl.LinePut; kind <= impl.LineTwice; kind++ {
				for k := range max(c.sent, c.line) + 1 {
					s := impl.LineStep{Kind: kind, K: k, Text: textOfNo(len(q.Sent))}
					after, _ := holdLineStep(t, q, s)
					if key := keyOf(after); len(after.Sent) <= c.sent && len(after.Line) <= c.line && !met[key] {
						met[key] = true
						open = append(open, after)
					}
				}
			}
		}
		if !whole || len(met) < 100 {
			t.Errorf("%+v: %d queues, all came: %v", c, len(met), whole)
		}
	}
}

func TestPuts(t *testing.T) {
	for sent := range 42 {
		if sent > impl.MaxSent {
			holdQueueRefused(t, queueOf(4, sent, 0, 0))
			continue
		}
		for _, text := range []string{"", "a", longestText} {
			for _, got := range []int{0, sent / 2, sent} {
				q := queueOf(4, sent, got, got/2, ackOf(got))
				after, did := holdLineStep(t, q, impl.LineStep{Kind: impl.LinePut, Text: text})
				if did != (sent < 40) || did && after.Sent[sent] != text {
					t.Errorf("a text behind %d: %#v, %v", sent, after, did)
				}
			}
		}
		for _, text := range noLineTexts {
			if _, did := holdLineStep(t, queueOf(4, sent, 0, 0), impl.LineStep{Kind: impl.LinePut, Text: text}); did {
				t.Errorf("a text of %d bytes is put", len(text))
			}
		}
	}
	// A line that is full has no bearing on what is put, nor have numbers that a put does not name.
	full := queueOf(4, 3, 1, 0, slices.Repeat([]impl.Packet{packetOf(2)}, 40)...)
	for _, k := range []int{math.MinInt, -1, 0, 7, math.MaxInt} {
		if after, did := holdLineStep(t, full, impl.LineStep{Kind: impl.LinePut, K: k, Text: "new"}); !did || after.Sent[3] != "new" {
			t.Errorf("%#v, %v", after, did)
		}
	}
}

func TestSends(t *testing.T) {
	for _, c := range []struct {
		window, sent, got, base, line int
		from, below                   int
	}{
		// From Base on, below Base and Window.
		{3, 9, 5, 4, 0, 4, 7}, {3, 9, 5, 5, 0, 5, 8}, {3, 9, 0, 0, 0, 0, 3}, {1, 9, 5, 4, 0, 4, 5}, {10, 40, 7, 3, 39, 3, 13}, {1, 40, 39, 39, 0, 39, 40},
		// Below how many were sent.
		{3, 6, 5, 4, 0, 4, 6}, {3, 7, 5, 4, 0, 4, 7}, {10, 1, 0, 0, 0, 0, 1}, {10, 40, 35, 35, 0, 35, 40}, {10, 40, 40, 30, 0, 30, 40}, {10, 40, 40, 31, 0, 31, 40},
		// Nothing was sent, all is known to have come, or there is no room.
		{10, 0, 0, 0, 0, 0, 0}, {10, 5, 5, 5, 0, 0, 0}, {3, 9, 5, 4, 40, 0, 0}, {10, 40, 0, 0, 40, 0, 0},
		// Room for just one more.
		{3, 9, 5, 4, 39, 4, 7},
	} {
		q := queueOf(c.window, c.sent, c.got, c.base, slices.Repeat([]impl.Packet{ackOf(c.got)}, c.line)...)
		for _, k := range append(numbersBelow(50), farNumbers...) {
			// The Text of such a step is not named, and so is none that counts.
			after, did := holdLineStep(t, q, impl.LineStep{Kind: impl.LineSend, K: k, Text: "another one, of many bytes"})
			if did != (k >= c.from && k < c.below) {
				t.Errorf("%+v: %d is sent: %v", c, k, did)
			}
			if did && (len(after.Line) != c.line+1 || after.Line[c.line] != packetOf(k)) {
				t.Errorf("%+v: %d is sent as %#v", c, k, after.Line)
			}
		}
		if _, did := holdLineStep(t, q, impl.LineStep{Kind: impl.LineSend, K: -1}); did {
			t.Errorf("%+v: -1 is sent", c)
		}
	}
}

func TestNamedTakes(t *testing.T) {
	line := func(l ...impl.Packet) []impl.Packet { return l }
	for _, c := range []struct {
		q    impl.Queue
		k    int
		got  int
		base int
		line []impl.Packet
	}{
		// A text whose number is just how many have come, less, and more.
		{queueOf(3, 9, 5, 4, packetOf(5)), 0, 6, 4, line(ackOf(6))},
		{queueOf(3, 9, 5, 4, packetOf(4)), 0, 5, 4, line(ackOf(5))},
		{queueOf(3, 9, 5, 4, packetOf(0)), 0, 5, 4, line(ackOf(5))},
		{queueOf(3, 9, 5, 4, packetOf(6)), 0, 5, 4, line(ackOf(5))},
		{queueOf(3, 9, 0, 0, packetOf(0)), 0, 1, 0, line(ackOf(1))},
		{queueOf(3, 9, 0, 0, packetOf(1)), 0, 0, 0, line(ackOf(0))},
		{queueOf(10, 40, 39, 30, packetOf(39)), 0, 40, 30, line(ackOf(40))},
		{queueOf(10, 40, 40, 40, packetOf(39)), 0, 40, 40, line(ackOf(40))},
		// An Ack whose number is more than Base, just it, and less.
		{queueOf(3, 9, 5, 4, ackOf(5)), 0, 5, 5, nil},
		{queueOf(3, 9, 5, 4, ackOf(4)), 0, 5, 4, nil},
		{queueOf(3, 9, 5, 4, ackOf(3)), 0, 5, 4, nil},
		{queueOf(3, 9, 5, 4, ackOf(0)), 0, 5, 4, nil},
		{queueOf(3, 9, 9, 0, ackOf(9)), 0, 9, 9, nil},
		{queueOf(3, 9, 5, 0, ackOf(2)), 0, 5, 2, nil},
		// The first packet, the last one and one between.
		{queueOf(3, 9, 5, 4, packetOf(5), ackOf(1), ackOf(5)), 0, 6, 4, line(ackOf(1), ackOf(5), ackOf(6))},
		{queueOf(3, 9, 5, 4, ackOf(1), packetOf(5), ackOf(5)), 1, 6, 4, line(ackOf(1), ackOf(5), ackOf(6))},
		{queueOf(3, 9, 5, 4, ackOf(1), ackOf(5), packetOf(5)), 2, 6, 4, line(ackOf(1), ackOf(5), ackOf(6))},
		{queueOf(3, 9, 5, 4, packetOf(5), packetOf(6), ackOf(5)), 2, 5, 5, line(packetOf(5), packetOf(6))},
		{queueOf(3, 9, 5, 4, packetOf(5), ackOf(5), packetOf(6)), 1, 5, 5, line(packetOf(5), packetOf(6))},
		{queueOf(3, 9, 5, 4, ackOf(5), packetOf(5), packetOf(6)), 0, 5, 5, line(packetOf(5), packetOf(6))},
		// The same packet twice: the text comes once.
		{queueOf(3, 9, 6, 4, packetOf(5), ackOf(6)), 0, 6, 4, line(ackOf(6), ackOf(6))},
	} {
		after, did := holdLineStep(t, c.q, impl.LineStep{Kind: impl.LineTake, K: c.k})
		if !did || len(after.Got) != c.got || after.Base != c.base || !slices.Equal(after.Line, c.line) {
			t.Errorf("%#v, packet %d: %#v, %v", c.q, c.k, after, did)
		}
	}
}

// On lines of all lengths each packet is taken, lost and doubled, and those that are not there are not.
func TestPacketsAtEachPlace(t *testing.T) {
	for length := range 41 {
		var line []impl.Packet
		for place := range length {
			line = append(line, []impl.Packet{packetOf(place % 9), ackOf(place % 6), packetOf(5)}[place%3])
		}
		q := queueOf(9, 9, 5, 1, line...)
		for _, k := range append(numbersBelow(45), append([]int{-1, -40}, farNumbers...)...) {
			there := k >= 0 && k < length
			lost, did := holdLineStep(t, q, impl.LineStep{Kind: impl.LineLose, K: k})
			if did != there || did && !slices.Equal(lost.Line, slices.Delete(slices.Clone(line), k, k+1)) {
				t.Errorf("%d of %d packets is lost: %v", k, length, did)
			}
			twice, did := holdLineStep(t, q, impl.LineStep{Kind: impl.LineTwice, K: k})
			if did != (there && length < 40) || did && !slices.Equal(twice.Line, append(slices.Clone(line), line[k])) {
				t.Errorf("%d of %d packets is doubled: %v", k, length, did)
			}
			taken, did := holdLineStep(t, q, impl.LineStep{Kind: impl.LineTake, K: k})
			if did != there {
				t.Errorf("%d of %d packets is taken: %v", k, length, did)
			}
			// An answer to a text has room, also on a line that was full.
			if did && (len(taken.Line) == length) == line[k].Ack {
				t.Errorf("%d of %d packets is taken: %#v", k, length, taken.Line)
			}
		}
	}
}

func TestStepsOfNoKind(t *testing.T) {
	q := queueOf(3, 9, 5, 4, packetOf(5), ackOf(5))
	for _, kind := range noLineKinds {
		for _, k := range []int{-1, 0, 1, 4, 5, math.MinInt, math.MaxInt} {
			s := impl.LineStep{Kind: kind, K: k, Text: "a"}
			if after, ok := impl.StepQueue(q, s); ok || !isZeroQueue(after) {
				t.Errorf("StepQueue, %#v: %#v, %v", s, after, ok)
			}
			after, did, ok := impl.PlayQueue(3, []impl.LineStep{s, {Kind: impl.LinePut, Text: "b"}, s})
			if !ok || !slices.Equal(did, []bool{false, true, false}) || !sameQueues(after, impl.Queue{Window: 3, Sent: []string{"b"}}) {
				t.Errorf("PlayQueue, %#v: %#v, %v, %v", s, after, did, ok)
			}
		}
	}
}

// A text is lost, another one comes ahead of it, and one comes twice: in the end all have come in order, once.
func TestNamedLinePlay(t *testing.T) {
	put, send, take, lose, twice := impl.LinePut, impl.LineSend, impl.LineTake, impl.LineLose, impl.LineTwice
	l := []impl.LineStep{
		{Kind: put, Text: "a"}, {Kind: put, Text: ""}, {Kind: put, Text: "c"},
		{Kind: send, K: 2}, // not done: the Window is 2
		{Kind: send, K: 0}, {Kind: send, K: 1},
		{Kind: lose, K: 0},  // "a" is lost
		{Kind: take, K: 0},  // "" comes ahead of it: not kept, 0 have come
		{Kind: send, K: 0},  // "a" once more: behind an Ack of 0
		{Kind: twice, K: 1}, // and doubled
		{Kind: take, K: 1},  // "a" has come
		{Kind: take, K: 1},  // and comes again: 1 has come
		{Kind: take, K: 0},  // the Ack of 0
		{Kind: take, K: 1},  // the Ack of 1, the later one
		{Kind: send, K: 0},  // not done: it is known to have come
		{Kind: send, K: 2},  // now within the Window
		{Kind: send, K: 1},  // behind it
		{Kind: take, K: 2},  // "" has come
		{Kind: take, K: 1},  // "c" has come
		{Kind: take, K: 2},  // the Ack of 3: all is known to have come
		{Kind: take, K: 3},  // not done: there is none
		{Kind: 6},           // not done: no such kind
		{Kind: send, K: 3},  // not done: there is no such text
		{Kind: take, K: 1},  // the Ack of 2, which is known
		{Kind: lose, K: -1}, // not done
	}
	want := []bool{true, true, true, false, true, true, true, true, true, true, true, true, true, true, false, true, true, true, true, true, false, false, false, true, false}
	q, did, ok := impl.PlayQueue(2, l)
	if !ok || !slices.Equal(did, want) {
		t.Fatalf("%v, %v, not %v", did, ok, want)
	}
	if !sameQueues(q, impl.Queue{Window: 2, Sent: []string{"a", "", "c"}, Base: 3, Got: []string{"a", "", "c"}, Line: []impl.Packet{ackOf(1)}}) {
		t.Errorf("%#v", q)
	}
	for length := range len(l) + 1 {
		holdLinePlay(t, 2, l[:length])
	}
}

func TestHowManyLineSteps(t *testing.T) {
	for _, window := range []int{1, 5, 10} {
		holdLinePlay(t, window, nil)
		holdLinePlay(t, window, []impl.LineStep{})
		next := numbersFrom(uint64(96000 + window))
		l := someLinePlay(window, 202, next)
		for _, count := range []int{1, 2, 199, 200} {
			holdLinePlay(t, window, l[:count])
		}
		holdLinePlayRefused(t, window, l[:201])
		holdLinePlayRefused(t, window, l)
		holdLinePlayRefused(t, window, make([]impl.LineStep, 201))
		holdLinePlay(t, window, make([]impl.LineStep, 200))
		holdLinePlayRefused(t, window, make([]impl.LineStep, 100000))
	}
	// More texts than there is room for, and more packets.
	puts := slices.Repeat([]impl.LineStep{{Kind: impl.LinePut, Text: "a"}}, 60)
	sends := slices.Repeat([]impl.LineStep{{Kind: impl.LineSend, K: 9}}, 60)
	twices := slices.Repeat([]impl.LineStep{{Kind: impl.LineTwice, K: 3}}, 40)
	takes := slices.Repeat([]impl.LineStep{{Kind: impl.LineTake}}, 40)
	q := holdLinePlay(t, 10, slices.Concat(puts, sends, twices, takes))
	if len(q.Sent) != 40 || len(q.Line) != 40 || len(q.Got) != 0 {
		t.Errorf("%#v", q)
	}
}

// Promise 14, of many plays: in the end what was sent is drained whole.
func TestManyLinePlays(t *testing.T) {
	came, full, known := 0, 0, 0
	for seed := range 500 {
		next := numbersFrom(uint64(97000 + seed))
		window := 1 + next(10)
		q := holdLinePlay(t, window, someLinePlay(window, oneOfNumbers(next, next(201), 200), next))
		holdDrain(t, q)
		came += len(q.Got)
		known += q.Base
		if len(q.Line) == impl.MaxLine {
			full++
		}
	}
	if came < 1000 || known < 500 || full == 0 {
		t.Error(came, known, full)
	}
}

func TestManyQueues(t *testing.T) {
	for seed := range 800 {
		next := numbersFrom(uint64(98000 + seed))
		q := someQueue(next)
		holdQueue(t, q)
		for range 20 {
			q, _ = holdLineStep(t, q, someLineStep(q, next))
		}
	}
}

func TestQueuesThatAreChanged(t *testing.T) {
	good, bad := 0, 0
	for seed := range 1500 {
		next := numbersFrom(uint64(99000 + seed))
		q := copyQueue(someQueue(next))
		switch next(6) {
		case 0:
			q.Window += oneOfNumbers(next, -1, 1, 5, -10, math.MaxInt)
		case 1:
			q.Base += oneOfNumbers(next, -1, 1, 2, math.MinInt)
		case 2:
			q.Sent = append(q.Sent, someText(next))
		case 3:
			q.Got = append(q.Got, someText(next))
		case 4:
			if len(q.Line) > 0 {
				p := &q.Line[next(len(q.Line))]
				p.No += oneOfNumbers(next, -1, 0, 1)
				p.Ack = next(2) == 0
				p.Text += []string{"", "a"}[next(2)]
			}
		default:
			q.Line = append(q.Line, []impl.Packet{ackOf(next(5)), {No: next(5), Text: someText(next)}}[next(2)])
		}
		if holdEitherQueue(t, q) {
			good++
		} else {
			bad++
		}
	}
	if good < 200 || bad < 200 {
		t.Error(good, bad)
	}
}

func TestNamedDrains(t *testing.T) {
	for _, c := range []struct {
		q     impl.Queue
		sends int
		line  []impl.Packet
	}{
		// None of what was sent is known to have come.
		{queueOf(1, 1, 0, 0), 1, nil}, {queueOf(1, 40, 0, 0), 40, nil}, {queueOf(10, 40, 0, 0), 40, nil}, {queueOf(3, 9, 0, 0, packetOf(1), packetOf(2)), 9, nil},
		// An Ack tells all that has come: one is sent for it.
		{queueOf(10, 40, 40, 0), 1, nil}, {queueOf(1, 40, 40, 39), 1, nil}, {queueOf(3, 9, 5, 0), 5, nil}, {queueOf(3, 9, 5, 4), 5, nil}, {queueOf(3, 9, 8, 0), 2, nil},
		// What has come is known.
		{queueOf(3, 9, 5, 5), 4, nil}, {queueOf(3, 9, 8, 8), 1, nil},
		// A line that is not empty is emptied, whatever it would have brought.
		{queueOf(3, 9, 5, 4, ackOf(5), packetOf(5), packetOf(6)), 5, nil},
		{queueOf(3, 9, 9, 8, ackOf(9)), 1, nil},
		{queueOf(10, 40, 20, 19, slices.Repeat([]impl.Packet{packetOf(20)}, 40)...), 21, nil},
		// All of it is known to have come: nothing is done, also not with the line.
		{queueOf(1, 0, 0, 0), 0, nil}, {queueOf(3, 9, 9, 9), 0, nil}, {queueOf(10, 40, 40, 40), 0, nil},
		{queueOf(3, 0, 0, 0, ackOf(0)), 0, []impl.Packet{ackOf(0)}},
		{queueOf(3, 3, 3, 3, ackOf(2), packetOf(1), packetOf(2)), 0, []impl.Packet{ackOf(2), packetOf(1), packetOf(2)}},
		{queueOf(3, 3, 3, 3, slices.Repeat([]impl.Packet{packetOf(2)}, 40)...), 0, slices.Repeat([]impl.Packet{packetOf(2)}, 40)},
	} {
		holdQueue(t, c.q)
		after, sends, ok := impl.DrainQueue(c.q)
		if !ok || sends != c.sends || !slices.Equal(after.Line, c.line) {
			t.Errorf("DrainQueue %#v: %#v, %d, %v", c.q, after, sends, ok)
		}
	}
}

// Draining takes one send for each text that has not come, and one more where what has come is not all known.
func TestDrainsOfEachCount(t *testing.T) {
	for sent := range 41 {
		for got := range sent + 1 {
			for _, base := range []int{0, got / 2, max(0, got-1), got} {
				q := queueOf(1+sent%10, sent, got, base, ackOf(base))
				want := sent - got
				if base < got {
					want++
				}
				holdDrain(t, q)
				if _, sends, _ := impl.DrainQueue(q); sends != want {
					t.Errorf("%d of %d have come, %d are known to: %d sends", got, sent, base, sends)
				}
				if waiting, ok := impl.WaitingIn(q); !ok || waiting != sent-got {
					t.Errorf("%d of %d have come: %d wait, %v", got, sent, waiting, ok)
				}
			}
		}
	}
}

// The same texts, sent in all orders of numbers, each twice, come in the one order in which they were put, once.
func TestSendsInEachOrder(t *testing.T) {
	for count := 1; count <= 5; count++ {
		everyOrder(count, func(order []int) {
			q := queueOf(10, count, 0, 0)
			// Each round brings at least the text that is next.
			for range count {
				for _, no := range order {
					q, _ = holdLineStep(t, q, impl.LineStep{Kind: impl.LineSend, K: no})
					q, _ = holdLineStep(t, q, impl.LineStep{Kind: impl.LineTwice, K: len(q.Line) - 1})
				}
				for len(q.Line) > 0 {
					q, _ = holdLineStep(t, q, impl.LineStep{Kind: impl.LineTake})
				}
			}
			if q.Base != count || !slices.Equal(q.Got, textsUpTo(count)) {
				t.Fatalf("%v: %#v", order, q)
			}
		})
	}
}

// Many who ask at once get what one gets.
func TestQueuesAskedForAtOnce(t *testing.T) {
	var group sync.WaitGroup
	l := someLinePlay(5, 200, numbersFrom(96100))
	way, wantDid := playQueueByWords(5, l)
	q := queueOf(10, 40, 20, 10, slices.Repeat([]impl.Packet{packetOf(19), ackOf(20)}, 20)...)
	for range 8 {
		group.Go(func() {
			for range 50 {
				if after, did, ok := impl.PlayQueue(5, l); !ok || !sameQueues(after, way[len(l)]) || !slices.Equal(did, wantDid) {
					t.Errorf("PlayQueue: %#v, %v, %v", after, did, ok)
				}
				if after, sends, ok := impl.DrainQueue(q); !ok || sends != 21 || len(after.Got) != 40 {
					t.Errorf("DrainQueue: %#v, %d, %v", after, sends, ok)
				}
				if after, ok := impl.StepQueue(q, impl.LineStep{Kind: impl.LineLose, K: 20}); !ok || len(after.Line) != 39 {
					t.Errorf("StepQueue: %#v, %v", after, ok)
				}
			}
		})
	}
	group.Wait()
}
