package tests

import (
	"slices"
	"strconv"

	"loop.example/g00269/impl"
)

// What the document's words say of states: of a state and one event more, and of whole rows of events, by counting.

func goodNameByWords(name string) bool {
	return goodEventByWords(impl.Event{Id: 1, Kind: 1, Name: name})
}

func goodStateByWords(s impl.State) bool {
	for _, name := range slices.Concat(s.Signals, s.Timers) {
		if !goodNameByWords(name) {
			return false
		}
	}
	for i := range s.Signals {
		for j := range i {
			if s.Signals[i] == s.Signals[j] {
				return false
			}
		}
	}
	for i := 1; i < len(s.Timers); i++ {
		if s.Timers[i] <= s.Timers[i-1] {
			return false
		}
	}
	if len(s.Signals) > 30 || len(s.Timers) > 30 || s.Done < 0 || s.Done > 1000 {
		return false
	}
	if s.Status == 0 {
		return s.Next == 1 && !s.Cancel && s.Done == 0 && len(s.Signals) == 0 && len(s.Timers) == 0
	}
	return (s.Status == 1 || s.Status == 2) && s.Next > 1 && s.Next <= 1001
}

// mayByWords takes a good state, and kind and name of a good event.
func mayByWords(s impl.State, kind int, name string) bool {
	// No good event has a greater Id.
	if s.Next > 1000 {
		return false
	}
	if kind == impl.EvStart {
		return s.Status == 0
	}
	if s.Status != 1 {
		return false
	}
	switch kind {
	case impl.EvSignal:
		return !slices.Contains(s.Signals, name) && len(s.Signals) < 30
	case impl.EvTaskDone:
		return s.Done < 1000
	case impl.EvTimer:
		return slices.Contains(s.Timers, name) || len(s.Timers) < 30
	case impl.EvCancel:
		return !s.Cancel
	}
	return true
}

// applyByWords takes a good state and any event.
func applyByWords(s impl.State, e impl.Event) (impl.State, bool) {
	if !goodEventByWords(e) || e.Id != s.Next || !mayByWords(s, e.Kind, e.Name) {
		return impl.State{}, false
	}
	after := copyState(s)
	after.Next = e.Id + 1
	switch e.Kind {
	case impl.EvStart:
		after.Status = 1
	case impl.EvSignal:
		after.Signals = append(after.Signals, e.Name)
	case impl.EvTaskDone:
		after.Done = s.Done + 1
	case impl.EvTimer:
		after.Timers = turnedByWords(s.Timers, e.Name)
	case impl.EvCancel:
		after.Cancel = true
	case impl.EvClose:
		after.Status, after.Timers = 2, nil
	}
	return after, true
}

func turnedByWords(timers []string, name string) []string {
	var left []string
	for _, other := range timers {
		if other != name {
			left = append(left, other)
		}
	}
	if len(left) == len(timers) {
		left = append(left, name)
	}
	slices.Sort(left)
	return left
}

// howOften counts events of a kind, with any name or with just that one.
func howOften(l []impl.Event, kind int, name ...string) int {
	count := 0
	for _, e := range l {
		if e.Kind == kind && (len(name) == 0 || e.Name == name[0]) {
			count++
		}
	}
	return count
}

// setTimers tells the names that were turned an odd number of times, rising.
func setTimers(l []impl.Event) []string {
	var set []string
	for _, e := range l {
		if howOften(l, impl.EvTimer, e.Name)%2 == 1 && !slices.Contains(set, e.Name) {
			set = append(set, e.Name)
		}
	}
	slices.Sort(set)
	return set
}

// signalNames tells the names of all signals, in their order.
func signalNames(l []impl.Event) []string {
	var names []string
	for _, e := range l {
		if e.Kind == impl.EvSignal {
			names = append(names, e.Name)
		}
	}
	return names
}

// rowMakes takes events that all came; it counts over all of them at once what they made.
func rowMakes(l []impl.Event) impl.State {
	s := impl.State{
		Status:  howOften(l, impl.EvStart) + howOften(l, impl.EvClose),
		Next:    len(l) + 1,
		Cancel:  howOften(l, impl.EvCancel) > 0,
		Done:    howOften(l, impl.EvTaskDone),
		Signals: signalNames(l),
		Timers:  setTimers(l),
	}
	if s.Status == 2 {
		s.Timers = nil
	}
	return s
}

// comesBehind tells whether an event may come behind events that all came.
func comesBehind(l []impl.Event, e impl.Event) bool {
	if !goodEventByWords(e) || e.Id != len(l)+1 {
		return false
	}
	if len(l) == 0 || e.Kind == impl.EvStart {
		return len(l) == 0 && e.Kind == impl.EvStart
	}
	if howOften(l, impl.EvClose) > 0 {
		return false
	}
	switch e.Kind {
	case impl.EvSignal:
		return howOften(l, impl.EvSignal, e.Name) == 0 && howOften(l, impl.EvSignal) < 30
	case impl.EvTimer:
		return len(setTimers(append(slices.Clone(l), e))) <= 30
	case impl.EvCancel:
		return howOften(l, impl.EvCancel) == 0
	}
	return true
}

// cameOf tells how many events of a row come, from the first one on.
func cameOf(l []impl.Event) int {
	for i, e := range l {
		if !comesBehind(l[:i], e) {
			return i
		}
	}
	return len(l)
}

func historyByWords(l []impl.Event) bool {
	for i := 1; i < len(l); i++ {
		if l[i].Version < l[i-1].Version {
			return false
		}
	}
	return len(l) <= 60 && cameOf(l) == len(l)
}

func copyState(s impl.State) impl.State {
	s.Signals = slices.Clone(s.Signals)
	s.Timers = slices.Clone(s.Timers)
	return s
}

func sameStates(a impl.State, b impl.State) bool {
	return a.Status == b.Status && a.Next == b.Next && a.Cancel == b.Cancel && a.Done == b.Done &&
		slices.Equal(a.Signals, b.Signals) && slices.Equal(a.Timers, b.Timers)
}

func isZeroState(s impl.State) bool {
	return sameStates(s, impl.State{})
}

// nameAt tells good names, no two alike, of all lengths; those of no bytes and of MaxName bytes come first.
func nameAt(number int) string {
	switch number {
	case 0:
		return ""
	case 1:
		return longestName
	case 2:
		return "zzzzzzzzzzzz"
	case 3:
		return "0"
	}
	digits := strconv.FormatInt(int64(number)*7919, 36)
	return "q0zm9b5xk"[:number%9] + digits
}

// namesUpTo tells so many names, in no order.
func namesUpTo(count int) []string {
	var l []string
	for number := range count {
		l = append(l, nameAt(number))
	}
	return l
}

func sortedNames(l []string) []string {
	return slices.Sorted(slices.Values(l))
}

// someNames draws so many names, no two alike, in any order.
func someNames(count int, next func(below int) int) []string {
	var l []string
	for _, number := range someOrder(45, next)[:count] {
		l = append(l, nameAt(number))
	}
	return l
}

// oneOfNumbers draws one of them.
func oneOfNumbers(next func(below int) int, l ...int) int {
	return l[next(len(l))]
}

// someState draws a good state, with bounds met often.
func someState(next func(below int) int) impl.State {
	status := oneOfNumbers(next, 0, 1, 1, 1, 1, 1, 1, 2)
	if status == 0 {
		return impl.State{Next: 1}
	}
	return impl.State{
		Status:  status,
		Next:    oneOfNumbers(next, 2, 2+next(1000), 2+next(1000), 1000, 1001),
		Cancel:  next(2) == 0,
		Done:    oneOfNumbers(next, 0, next(1001), next(1001), 999, 1000),
		Signals: someNames(oneOfNumbers(next, 0, next(31), next(31), 29, 30), next),
		Timers:  sortedNames(someNames(oneOfNumbers(next, 0, next(31), next(31), 29, 30), next)),
	}
}

// rowOf makes a row of events with Ids from 1 on, of kinds and names, all of one Version.
func rowOf(version int, kindsAndNames ...any) []impl.Event {
	var l []impl.Event
	for _, x := range kindsAndNames {
		switch x := x.(type) {
		case int:
			l = append(l, impl.Event{Id: len(l) + 1, Version: version, Kind: x})
		case string:
			l[len(l)-1].Name = x
		}
	}
	return l
}

// startedWith makes a row of a start and, of these names, one event each of a kind.
func startedWith(kind int, names []string) []impl.Event {
	l := rowOf(7, impl.EvStart)
	for _, name := range names {
		l = append(l, impl.Event{Id: len(l) + 1, Version: 7, Kind: kind, Name: name})
	}
	return l
}

// someRow draws a row of events that mostly may come, of Versions that do not fall; about one of so many ends or spoils it.
func someRow(count int, oneOf int, next func(below int) int) []impl.Event {
	l := []impl.Event{{Id: 1, Version: next(2) * next(900000), Kind: impl.EvStart, Name: nameAt(next(45))}}
	for len(l) < count {
		e := impl.Event{Id: len(l) + 1, Version: l[len(l)-1].Version + max(0, next(8)-5), Name: nameAt(next(45))}
		e.Kind = oneOfNumbers(next, impl.EvSignal, impl.EvSignal, impl.EvTaskDone, impl.EvTimer, impl.EvTimer, impl.EvCancel)
		if next(oneOf) == 0 {
			e.Kind = 1 + next(6)
		} else if !comesBehind(l, e) {
			e.Kind = oneOfNumbers(next, impl.EvTaskDone, impl.EvTimer)
		}
		l = append(l, e)
	}
	return l
}

// everyRow tells all rows of up to so many events behind a beginning, with Ids one by one, of all kinds and these names.
func everyRow(first []impl.Event, most int, names []string, use func(l []impl.Event)) {
	use(first)
	if len(first) >= most {
		return
	}
	for kind := impl.EvStart; kind <= impl.EvClose; kind++ {
		for _, name := range names {
			e := impl.Event{Id: len(first) + 1, Version: 3, Kind: kind, Name: name}
			everyRow(append(slices.Clone(first), e), most, names, use)
		}
	}
}
