package tests

import (
	"math"
	"slices"
	"testing"

	"loop.example/g00269/impl"
)

var wrongPacket = impl.Packet{Ack: true, No: math.MinInt, Text: wrongName}

var wrongLineStep = impl.LineStep{Kind: impl.LinePut, K: 1, Text: "behind"}

// queueBehind lays wrong things behind each list of a queue.
func queueBehind(q impl.Queue) impl.Queue {
	q.Sent, q.Got = namesBehind(q.Sent), namesBehind(q.Got)
	q.Line = append(slices.Clone(q.Line), wrongPacket, wrongPacket, wrongPacket)[:len(q.Line)]
	return q
}

// wholeQueue copies all that lies in the memory of a queue, up to each capacity.
func wholeQueue(q impl.Queue) impl.Queue {
	q.Sent, q.Got, q.Line = q.Sent[:cap(q.Sent)], q.Got[:cap(q.Got)], q.Line[:cap(q.Line)]
	return copyQueue(q)
}

// freshQueue makes a queue of which each text has memory of its own.
func freshQueue(q impl.Queue) impl.Queue {
	q = copyQueue(q)
	for _, l := range [][]string{q.Sent, q.Got} {
		for i := range l {
			l[i] = freshText(l[i])
		}
	}
	for i := range q.Line {
		q.Line[i].Text = freshText(q.Line[i].Text)
	}
	return q
}

func freshLineSteps(l []impl.LineStep) []impl.LineStep {
	l = slices.Clone(l)
	for i := range l {
		l[i].Text = freshText(l[i].Text)
	}
	return l
}

// lineTexts tells the texts of packets.
func lineTexts(l []impl.Packet) []string {
	var texts []string
	for _, p := range l {
		texts = append(texts, p.Text)
	}
	return texts
}

// fillLine writes over all that a line has, up to its capacity.
func fillLine(l []impl.Packet) {
	l = l[:cap(l)]
	for i := range l {
		l[i] = wrongPacket
	}
}

// fillQueue writes over all lists of a queue, up to their capacity.
func fillQueue(q impl.Queue) {
	fillNames(q.Sent, q.Got)
	fillLine(q.Line)
}

// holdNothingBehindQueue holds that behind the lists of an answer nothing lies.
func holdNothingBehindQueue(t *testing.T, q impl.Queue) {
	t.Helper()
	holdNothingBehindNames(t, q.Sent, q.Got)
	for _, p := range q.Line[len(q.Line):cap(q.Line)] {
		if p != (impl.Packet{}) {
			t.Fatalf("behind the line of %#v lies %#v", q, p)
		}
	}
}

// holdApart holds that the lists of an answer share no memory with each other, and its texts none with texts that were given.
func holdApart(t *testing.T, q impl.Queue, given []string) {
	t.Helper()
	onLine := lineTexts(q.Line)
	holdNoSharedNames(t, q.Sent, q.Got)
	holdNoSharedNames(t, q.Sent, onLine)
	holdNoSharedNames(t, q.Got, onLine)
	holdNoSharedNames(t, slices.Concat(q.Sent, q.Got, onLine), given)
}

// fewSteps tells some steps at a queue, most of which can be done.
func fewSteps(q impl.Queue) []impl.LineStep {
	l := []impl.LineStep{{Kind: impl.LinePut, Text: "new"}, {Kind: impl.LinePut}, {Kind: impl.LineSend, K: q.Base}, {Kind: impl.LineSend, K: q.Base + q.Window}, {Kind: 6}}
	for kind := impl.LineTake; kind <= impl.LineTwice; kind++ {
		for _, k := range []int{-1, 0, len(q.Line) / 2, len(q.Line) - 1, len(q.Line)} {
			l = append(l, impl.LineStep{Kind: kind, K: k})
		}
	}
	return freshLineSteps(l)
}

// answeredQueues asks all functions that answer a queue of one; what is refused is asked, too.
func answeredQueues(q impl.Queue) []impl.Queue {
	drained, _, _ := impl.DrainQueue(q)
	all := []impl.Queue{drained}
	for _, s := range fewSteps(q) {
		after, _ := impl.StepQueue(q, s)
		all = append(all, after)
	}
	return all
}

// What else is told of a queue.
type toldOfQueue struct {
	good, waits    bool
	waiting, sends int
}

func tellQueue(q impl.Queue) toldOfQueue {
	told := toldOfQueue{good: impl.GoodQueue(q)}
	told.waiting, told.waits = impl.WaitingIn(q)
	_, told.sends, _ = impl.DrainQueue(q)
	return told
}

// holdQueueMemory holds that no queue is changed, nothing behind its lists is read, and no answer shares memory with it or another one.
func holdQueueMemory(t *testing.T, q impl.Queue) {
	t.Helper()
	want, told := answeredQueues(copyQueue(q)), tellQueue(copyQueue(q))
	laid := queueBehind(freshQueue(q))
	kept := wholeQueue(laid)
	for range 2 {
		got := answeredQueues(laid)
		if !slices.EqualFunc(got, want, sameQueues) || tellQueue(laid) != told {
			t.Fatalf("%#v: what lies behind a list is read, or an answer was kept", q)
		}
		for i, answered := range got {
			holdNothingBehindQueue(t, answered)
			holdApart(t, answered, slices.Concat(laid.Sent, laid.Got, lineTexts(laid.Line)))
			if !sameQueues(answered, want[i]) {
				t.Fatalf("%#v: queue %d of the answers shares memory with another one", q, i)
			}
			fillNames(answered.Sent)
			if !slices.Equal(answered.Got, want[i].Got) {
				t.Fatalf("%#v: the lists of queue %d of the answers share memory", q, i)
			}
			fillQueue(answered)
		}
		if !sameQueues(wholeQueue(laid), kept) {
			t.Fatalf("the queue %#v, or what lies behind it, is written into", q)
		}
	}
	// The answers stay what they are when the argument is changed.
	got := answeredQueues(laid)
	fillQueue(laid)
	if !slices.EqualFunc(got, want, sameQueues) {
		t.Fatalf("%#v: an answer lies in the memory of the argument", q)
	}
}

func TestQueuesAreLeftAlone(t *testing.T) {
	for seed := range 100 {
		holdQueueMemory(t, someQueue(numbersFrom(uint64(96200+seed))))
	}
	for window := 1; window <= 10; window += 3 {
		holdQueueMemory(t, impl.Queue{Window: window})
		holdQueueMemory(t, impl.Queue{Window: window, Sent: []string{}, Got: []string{}, Line: []impl.Packet{}})
		holdQueueMemory(t, queueOf(window, 40, 20, 20, slices.Repeat([]impl.Packet{packetOf(20), ackOf(20)}, 20)...))
		holdQueueMemory(t, queueOf(window, 39, 38, 38, slices.Repeat([]impl.Packet{packetOf(38)}, 39)...))
		holdQueueMemory(t, queueOf(window, 9, 5, 4, packetOf(4), ackOf(5)))
	}
}

func TestBadQueuesAreLeftAlone(t *testing.T) {
	for _, q := range badQueues() {
		holdQueueMemory(t, q)
	}
}

// A text that is put lies in the memory of the step no more.
func TestPutsShareNoTexts(t *testing.T) {
	for _, text := range []string{"", "a", longestText} {
		text = freshText(text)
		q := freshQueue(queueOf(3, 9, 5, 4, packetOf(5)))
		after, ok := impl.StepQueue(q, impl.LineStep{Kind: impl.LinePut, Text: text})
		if !ok || after.Sent[9] != text {
			t.Fatalf("%#v, %v", after, ok)
		}
		holdApart(t, after, append(slices.Concat(q.Sent, q.Got, lineTexts(q.Line)), text))
	}
}

// holdLinePlayMemory holds that no steps are changed, nothing behind them is read, and no answer shares memory with them or another one.
func holdLinePlayMemory(t *testing.T, window int, l []impl.LineStep) {
	t.Helper()
	want, wantDid, good := impl.PlayQueue(window, slices.Clip(slices.Clone(l)))
	first := copyQueue(want)
	laid := append(freshLineSteps(l), wrongLineStep, wrongLineStep, wrongLineStep)[:len(l)]
	kept := slices.Clone(laid[:cap(laid)])
	var given []string
	for _, s := range laid {
		given = append(given, s.Text)
	}
	for range 2 {
		q, did, ok := impl.PlayQueue(window, laid)
		if ok != good || !sameQueues(q, first) || !slices.Equal(did, wantDid) {
			t.Fatalf("%d, %#v: what lies behind the list is read, or an answer was kept", window, l)
		}
		holdNothingBehindQueue(t, q)
		holdApart(t, q, given)
		for _, behind := range did[len(did):cap(did)] {
			if behind {
				t.Fatalf("%d, %#v: something lies behind what was done", window, l)
			}
		}
		fillNames(q.Sent)
		if !slices.Equal(q.Got, first.Got) {
			t.Fatalf("%d, %#v: the lists of the answer share memory", window, l)
		}
		fillQueue(q)
		fillBools(did)
		if !slices.Equal(laid[:cap(laid)], kept) || !sameQueues(want, first) {
			t.Fatalf("the steps %#v, or what lies behind them, are written into, or two answers share memory", l)
		}
	}
	q, _, _ := impl.PlayQueue(window, laid)
	for i := range laid {
		laid[i] = wrongLineStep
	}
	if !sameQueues(q, first) {
		t.Fatalf("%d, %#v: the answer lies in the memory of the steps", window, l)
	}
}

func TestLineStepsAreLeftAlone(t *testing.T) {
	for seed := range 150 {
		next := numbersFrom(uint64(96400 + seed))
		window := 1 + next(10)
		holdLinePlayMemory(t, window, someLinePlay(window, oneOfNumbers(next, next(20), next(201), 200), next))
	}
	holdLinePlayMemory(t, 3, nil)
	holdLinePlayMemory(t, 3, make([]impl.LineStep, 200))
	holdLinePlayMemory(t, 3, make([]impl.LineStep, 201))
	for _, window := range noWindows {
		holdLinePlayMemory(t, window, slices.Repeat([]impl.LineStep{{Kind: impl.LinePut, Text: "a"}}, 4))
	}
}

// What was sent and what has come may lie in one memory, for one is a beginning of the other; nothing is to be seen of it.
func TestQueuesInOneMemory(t *testing.T) {
	texts := textsUpTo(41)
	line := []impl.Packet{packetOf(3), ackOf(2), packetOf(1), ackOf(0), packetOf(2), packetOf(4)}
	keptTexts, keptLine := slices.Clone(texts), slices.Clone(line)
	for _, sent := range []int{0, 1, 2, 3, 5, 6, 12, 39, 40} {
		for got := range sent + 1 {
			for _, packets := range [][]impl.Packet{line[:0], line[1:2], line[3:5], line[2:], line} {
				q := impl.Queue{Window: 5, Sent: texts[:sent], Base: got / 2, Got: texts[:got], Line: packets}
				apart := copyQueue(q)
				if tellQueue(q) != tellQueue(apart) || !slices.EqualFunc(answeredQueues(q), answeredQueues(apart), sameQueues) {
					t.Errorf("%#v is answered otherwise where it lies in another memory", q)
				}
				for _, answered := range answeredQueues(q) {
					fillQueue(answered)
				}
				if !slices.Equal(texts, keptTexts) || !slices.Equal(line, keptLine) {
					t.Fatal("an answer lies in the memory of an argument, or an argument is written into")
				}
			}
		}
	}
}

// A list ends where its length says, whatever lies behind it.
func TestQueueBehindTheList(t *testing.T) {
	texts := append(textsUpTo(45), noLineTexts...)
	for length := range len(texts) + 1 {
		if good := impl.GoodQueue(impl.Queue{Window: 3, Sent: texts[:length]}); good != (length <= 40) {
			t.Errorf("%d texts: %v", length, good)
		}
		if good := impl.GoodQueue(impl.Queue{Window: 3, Sent: texts[:30], Got: texts[:length]}); good != (length <= 30) {
			t.Errorf("%d of 30 texts have come: %v", length, good)
		}
	}
	line := append(slices.Repeat([]impl.Packet{ackOf(1)}, 7), wrongPacket)
	for length := range len(line) + 1 {
		q := queueOf(3, 9, 1, 0, line[:length]...)
		if good := impl.GoodQueue(q); good != (length <= 7) {
			t.Errorf("%d packets: %v", length, good)
		}
		// A packet behind the list is none that could be taken.
		if after, ok := impl.StepQueue(q, impl.LineStep{Kind: impl.LineTake, K: length}); ok || !isZeroQueue(after) {
			t.Errorf("%d packets: %#v, %v", length, after, ok)
		}
	}
	// Nor is a text behind the list one that was sent.
	q := impl.Queue{Window: 10, Sent: texts[:3]}
	if _, ok := impl.StepQueue(q, impl.LineStep{Kind: impl.LineSend, K: 3}); ok {
		t.Error("a text behind the list is sent")
	}
	if after, ok := impl.StepQueue(q, impl.LineStep{Kind: impl.LinePut, Text: "new"}); !ok || after.Sent[3] != "new" || texts[3] != textOfNo(3) {
		t.Error(after, ok)
	}
	steps := []impl.LineStep{{Kind: impl.LinePut, Text: "a"}, {Kind: impl.LinePut, Text: "b"}, {Kind: impl.LineSend, K: 1}}
	for length := range len(steps) + 1 {
		holdLinePlay(t, 4, steps[:length])
	}
}
