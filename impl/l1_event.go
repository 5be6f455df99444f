package impl

import (
	"strconv"
	"strings"
)

const MaxEvents = 60
const MaxName = 12

// Kinds count from 1 on, so that a zero event is never a good one.
const (
	EvStart = iota + 1
	EvSignal
	EvTaskDone
	EvTimer
	EvCancel
	EvClose
)

const maxEventId = 1000
const maxVersion = 1000000
const maxFrameText = 60

// Kind, Id, Version and Name.
const eventFields = 4

// Fletcher's sums are kept modulo this number.
const sumModulus = 255

// The place of a kind tells whether there is one of that number.
var knownKinds = [...]bool{
	EvStart:    true,
	EvSignal:   true,
	EvTaskDone: true,
	EvTimer:    true,
	EvCancel:   true,
	EvClose:    true,
}

type Event struct {
	Id      int
	Version int
	Kind    int
	Name    string
}

// GoodEvent tells whether each field of e is within its bounds.
func GoodEvent(e Event) bool {
	return within(e.Id, 1, maxEventId) && within(e.Version, 0, maxVersion) && goodKind(e.Kind) && goodName(e.Name)
}

// EventBytes tells the text of a good event.
func EventBytes(e Event) (string, bool) {
	if !GoodEvent(e) {
		return "", false
	}
	return strconv.Itoa(e.Kind) + "." + strconv.Itoa(e.Id) + "." + strconv.Itoa(e.Version) + "." + e.Name + ".", true
}

// ReadEvent tells the good event whose text is s.
func ReadEvent(s string) (Event, bool) {
	// One part more than fields: what is behind the last point, which must be nothing.
	parts := strings.SplitN(s, ".", eventFields+1)
	if len(parts) != eventFields+1 || parts[eventFields] != "" {
		return Event{}, false
	}
	kind, kindRead := readNumber(parts[0])
	id, idRead := readNumber(parts[1])
	version, versionRead := readNumber(parts[2])
	e := Event{Id: id, Version: version, Kind: kind, Name: parts[3]}
	if !kindRead || !idRead || !versionRead || !GoodEvent(e) {
		return Event{}, false
	}
	// The part lies in the memory of s, which an answer must not share.
	e.Name = strings.Clone(e.Name)
	return e, true
}

// FrameBytes tells the frame of a text: its length, the text, and its sum.
func FrameBytes(s string) (string, bool) {
	if len(s) > maxFrameText {
		return "", false
	}
	sum := SumOf(s)
	frame := []byte{byte(len(s))}
	frame = append(frame, s...)
	frame = append(frame, byte(sum>>8), byte(sum))
	return string(frame), true
}

// TakeFrame tells the text of the frame at the front of s, and how many bytes the frame has.
func TakeFrame(s string) (string, int, bool) {
	if s == "" || len(s)-1 < int(s[0]) {
		return "", 0, false
	}
	text := s[1 : 1+int(s[0])]
	frame, ok := FrameBytes(text)
	if !ok || !strings.HasPrefix(s, frame) {
		return "", 0, false
	}
	return strings.Clone(text), len(frame), true
}

// EventsBytes tells the frames of the texts of good events, one behind the other.
func EventsBytes(l []Event) (string, bool) {
	if len(l) > MaxEvents {
		return "", false
	}
	var all strings.Builder
	for _, e := range l {
		text, ok := EventBytes(e)
		if !ok {
			return "", false
		}
		// The text of a good event is never too long for a frame.
		frame, _ := FrameBytes(text)
		all.WriteString(frame)
	}
	return all.String(), true
}

// ReadEvents tells the good events whose frames stand at the front of s, and how many bytes these frames have.
func ReadEvents(s string) ([]Event, int) {
	var l []Event
	read := 0
	for len(l) < MaxEvents {
		e, size, ok := takeEvent(s[read:])
		if !ok {
			break
		}
		l = append(l, e)
		read += size
	}
	return l, read
}

// SumOf tells Fletcher's sum of the bytes of s.
func SumOf(s string) int {
	a, b := 0, 0
	// By numbers, for a range over the text itself would go by runes.
	for i := range len(s) {
		a = (a + int(s[i])) % sumModulus
		b = (b + a) % sumModulus
	}
	return 256*b + a
}

func takeEvent(s string) (Event, int, bool) {
	text, size, ok := TakeFrame(s)
	if !ok {
		return Event{}, 0, false
	}
	e, ok := ReadEvent(text)
	if !ok {
		return Event{}, 0, false
	}
	return e, size, true
}

func within(n int, least int, most int) bool {
	return least <= n && n <= most
}

func goodKind(kind int) bool {
	return within(kind, 0, len(knownKinds)-1) && knownKinds[kind]
}

func goodName(name string) bool {
	if len(name) > MaxName {
		return false
	}
	for i := range len(name) {
		if !isNameByte(name[i]) {
			return false
		}
	}
	return true
}

func isNameByte(c byte) bool {
	return 'a' <= c && c <= 'z' || '0' <= c && c <= '9'
}

// readNumber takes a number in the one form in which it is written.
func readNumber(s string) (int, bool) {
	n, err := strconv.Atoi(s)
	// Atoi takes signs and needless noughts too; written anew they are gone.
	if err != nil || n < 0 || strconv.Itoa(n) != s {
		return 0, false
	}
	return n, true
}
