package tests

import (
	"slices"
	"strconv"
	"strings"

	"loop.example/g00269/impl"
)

// What the document's words say of queues: each step on its own, and draining by the steps it is told with.

const longestText = "\x00Text of 12\xff"

func goodQueueByWords(q impl.Queue) bool {
	if q.Window < 1 || q.Window > 10 || len(q.Sent) > 40 || len(q.Line) > 40 || q.Base < 0 || q.Base > len(q.Got) || len(q.Got) > len(q.Sent) {
		return false
	}
	for _, text := range q.Sent {
		if len(text) > 12 {
			return false
		}
	}
	for no, text := range q.Got {
		if text != q.Sent[no] {
			return false
		}
	}
	for _, p := range q.Line {
		if !goodPacketByWords(q, p) {
			return false
		}
	}
	return true
}

func goodPacketByWords(q impl.Queue, p impl.Packet) bool {
	if p.Ack {
		return p.No >= 0 && p.No <= len(q.Got) && p.Text == ""
	}
	for no, text := range q.Sent {
		if no == p.No {
			return no-q.Window < q.Base && p.Text == text
		}
	}
	return false
}

func copyQueue(q impl.Queue) impl.Queue {
	q.Sent, q.Got, q.Line = slices.Clone(q.Sent), slices.Clone(q.Got), slices.Clone(q.Line)
	return q
}

func sameQueues(a impl.Queue, b impl.Queue) bool {
	return a.Window == b.Window && a.Base == b.Base && slices.Equal(a.Sent, b.Sent) && slices.Equal(a.Got, b.Got) && slices.Equal(a.Line, b.Line)
}

func isZeroQueue(q impl.Queue) bool {
	return sameQueues(q, impl.Queue{})
}

// stepByWords takes a good queue.
func stepByWords(q impl.Queue, s impl.LineStep) (impl.Queue, bool) {
	q = copyQueue(q)
	switch s.Kind {
	case impl.LinePut:
		if len(q.Sent) >= 40 || len(s.Text) > 12 {
			return impl.Queue{}, false
		}
		q.Sent = append(q.Sent, s.Text)
	case impl.LineSend:
		if s.K < q.Base || s.K-q.Window >= q.Base || s.K >= len(q.Sent) || len(q.Line) >= 40 {
			return impl.Queue{}, false
		}
		q.Line = append(q.Line, impl.Packet{No: s.K, Text: q.Sent[s.K]})
	case impl.LineTake, impl.LineLose, impl.LineTwice:
		return packetByWords(q, s)
	default:
		return impl.Queue{}, false
	}
	return q, true
}

// packetByWords takes a good queue with memory of its own, and a step that is told of a packet.
func packetByWords(q impl.Queue, s impl.LineStep) (impl.Queue, bool) {
	if s.K < 0 || s.K >= len(q.Line) || s.Kind == impl.LineTwice && len(q.Line) >= 40 {
		return impl.Queue{}, false
	}
	p := q.Line[s.K]
	if s.Kind == impl.LineTwice {
		q.Line = append(q.Line, p)
		return q, true
	}
	q.Line = slices.Concat(q.Line[:s.K], q.Line[s.K+1:])
	if s.Kind == impl.LineLose {
		return q, true
	}
	switch {
	case p.Ack && p.No > q.Base:
		q.Base = p.No
	case !p.Ack:
		if p.No == len(q.Got) {
			q.Got = append(q.Got, p.Text)
		}
		q.Line = append(q.Line, impl.Packet{Ack: true, No: len(q.Got)})
	}
	return q, true
}

// playQueueByWords tells the queue ahead of each step and behind the last one, and whether each was done.
func playQueueByWords(window int, l []impl.LineStep) ([]impl.Queue, []bool) {
	way := []impl.Queue{{Window: window}}
	var did []bool
	for i, s := range l {
		after, ok := stepByWords(way[i], s)
		if !ok {
			after = way[i]
		}
		way, did = append(way, after), append(did, ok)
	}
	return way, did
}

// drainSteps tells the steps that drain a good queue, and how many of them are LineSend.
func drainSteps(q impl.Queue) ([]impl.LineStep, int) {
	var l []impl.LineStep
	sends := 0
	do := func(kind int, k int) {
		s := impl.LineStep{Kind: kind, K: k}
		q, _ = stepByWords(q, s)
		l = append(l, s)
	}
	for q.Base < len(q.Sent) {
		for len(q.Line) > 0 {
			do(impl.LineLose, 0)
		}
		do(impl.LineSend, q.Base)
		sends++
		do(impl.LineTake, 0)
		do(impl.LineTake, 0)
	}
	return l, sends
}

// textOfNo tells texts of no bytes, of a few and of 12; no two side by side are alike.
func textOfNo(no int) string {
	switch no % 5 {
	case 1:
		return ""
	case 3:
		return longestText
	}
	return "t" + strconv.Itoa(no)
}

func textsUpTo(count int) []string {
	var l []string
	for no := range count {
		l = append(l, textOfNo(no))
	}
	return l
}

// queueOf makes a queue with so many texts sent, so many that have come, and a line.
func queueOf(window int, sent int, got int, base int, line ...impl.Packet) impl.Queue {
	texts := textsUpTo(sent)
	return impl.Queue{Window: window, Sent: texts, Base: base, Got: slices.Clone(texts[:min(got, sent)]), Line: line}
}

func ackOf(no int) impl.Packet {
	return impl.Packet{Ack: true, No: no}
}

// packetOf makes the packet of a text of textsUpTo.
func packetOf(no int) impl.Packet {
	return impl.Packet{No: no, Text: textOfNo(no)}
}

// packetsFor tells all packets that a good queue may have on its line.
func packetsFor(q impl.Queue) []impl.Packet {
	var l []impl.Packet
	for no := range len(q.Got) + 1 {
		l = append(l, ackOf(no))
	}
	for no, text := range q.Sent {
		if no < q.Base+q.Window {
			l = append(l, impl.Packet{No: no, Text: text})
		}
	}
	return l
}

// someText draws a text, often one that is drawn again.
func someText(next func(below int) int) string {
	return []string{"", "a", "b", longestText, "\xff", strings.Repeat("x", next(13)), textOfNo(next(40))}[next(7)]
}

// someQueue draws a good queue, be it one that a play could come to or not.
func someQueue(next func(below int) int) impl.Queue {
	q := impl.Queue{Window: oneOfNumbers(next, 1, 2, 3, 10, 1+next(10))}
	for range oneOfNumbers(next, 0, 1, next(6), next(41), 39, 40) {
		q.Sent = append(q.Sent, someText(next))
	}
	q.Got = slices.Clone(q.Sent[:oneOfNumbers(next, 0, len(q.Sent), next(len(q.Sent)+1))])
	q.Base = oneOfNumbers(next, 0, len(q.Got), next(len(q.Got)+1))
	packets := packetsFor(q)
	for range oneOfNumbers(next, 0, 1, 2, next(6), next(41), 39, 40) {
		q.Line = append(q.Line, packets[next(len(packets))])
	}
	return q
}

// someLineStep draws a step that can mostly be done at a queue.
func someLineStep(q impl.Queue, next func(below int) int) impl.LineStep {
	switch kind := 1 + next(5); kind {
	case impl.LinePut:
		return impl.LineStep{Kind: kind, Text: someText(next)}
	case impl.LineSend:
		return impl.LineStep{Kind: kind, K: q.Base + next(q.Window+1)}
	default:
		return impl.LineStep{Kind: kind, K: next(len(q.Line) + 1)}
	}
}

// someLinePlay draws so many steps, one by one, each by what the ones ahead made.
func someLinePlay(window int, count int, next func(below int) int) []impl.LineStep {
	q := impl.Queue{Window: window}
	var l []impl.LineStep
	for range count {
		s := someLineStep(q, next)
		if after, ok := stepByWords(q, s); ok {
			q = after
		}
		l = append(l, s)
	}
	return l
}
