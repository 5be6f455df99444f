package tests

import (
	"slices"
	"strconv"
	"strings"

	"loop.example/g00269/impl"
)

// What the document's words say of branches: each two of them held against each other, and of all histories together those that are a beginning of no other one.

func isTellingByWords(l []impl.Event) bool {
	return len(l) > 0 && historyByWords(l)
}

// partByWords tells the number of the first event in which two rows are unlike, or that one of them lacks.
func partByWords(a []impl.Event, b []impl.Event) int {
	for i := range a {
		if i == len(b) || a[i] != b[i] {
			return i
		}
	}
	return len(a)
}

func beginsRow(first []impl.Event, l []impl.Event) bool {
	return partByWords(first, l) == len(first)
}

func sameRows(a []impl.Event, b []impl.Event) bool {
	return beginsRow(a, b) && beginsRow(b, a)
}

func lessByWords(a []impl.Event, b []impl.Event) bool {
	part := partByWords(a, b)
	if part == len(a) || part == len(b) {
		return len(a) < len(b)
	}
	one, two := a[part], b[part]
	if one.Version != two.Version {
		return one.Version < two.Version
	}
	if one.Kind != two.Kind {
		return one.Kind < two.Kind
	}
	return one.Name < two.Name
}

func goodTellingsByWords(x impl.Tellings) bool {
	for i, one := range x.Branches {
		if !isTellingByWords(one.Events) {
			return false
		}
		for j, two := range x.Branches {
			if i != j && beginsRow(one.Events, two.Events) || i < j && !lessByWords(one.Events, two.Events) {
				return false
			}
		}
	}
	return len(x.Branches) <= 12
}

// togetherByWords tells, of all histories, those that are a beginning of no other one, each once, rising; how many they are does not count.
func togetherByWords(lists ...[][]impl.Event) impl.Tellings {
	var kept [][]impl.Event
	all := slices.Concat(lists...)
	for i, one := range all {
		goes := false
		for j, two := range all {
			// Of several that are the same the first one is kept.
			goes = goes || beginsRow(one, two) && (len(one) < len(two) || j < i)
		}
		if !goes {
			kept = append(kept, one)
		}
	}
	var rising [][]impl.Event
	for _, one := range kept {
		place := 0
		for place < len(rising) && lessByWords(rising[place], one) {
			place++
		}
		rising = slices.Insert(rising, place, one)
	}
	return tellingsOf(rising...)
}

// countsMore tells whether a history is ahead of another one when it comes to which one is the current one.
func countsMore(a []impl.Event, b []impl.Event) bool {
	one, two := a[len(a)-1].Version, b[len(b)-1].Version
	if one != two {
		return one > two
	}
	if len(a) != len(b) {
		return len(a) > len(b)
	}
	return lessByWords(b, a)
}

// currentByWords tells the branch that counts more than each other one.
func currentByWords(x impl.Tellings) []impl.Event {
	for i, one := range x.Branches {
		most := true
		for j, two := range x.Branches {
			most = most && (i == j || countsMore(one.Events, two.Events))
		}
		if most {
			return one.Events
		}
	}
	return nil
}

func lostByWords(x impl.Tellings) []string {
	var lost []string
	kept := signalNames(currentByWords(x))
	for _, b := range x.Branches {
		for _, name := range signalNames(b.Events) {
			if !slices.Contains(kept, name) && !slices.Contains(lost, name) {
				lost = append(lost, name)
			}
		}
	}
	return sortedNames(lost)
}

func hasByWords(x impl.Tellings, l []impl.Event) bool {
	has := false
	for _, b := range x.Branches {
		has = has || beginsRow(l, b.Events)
	}
	return has
}

// eventsByWords counts the beginnings of all branches, each one once: as many as there are last events of them.
func eventsByWords(x impl.Tellings) int {
	beginnings := map[string]int{}
	for _, b := range x.Branches {
		text := ""
		for _, e := range b.Events {
			text += textOf(e)
			beginnings[text]++
		}
	}
	return len(beginnings)
}

func tellingsOf(l ...[]impl.Event) impl.Tellings {
	var x impl.Tellings
	for _, history := range l {
		x.Branches = append(x.Branches, impl.Branch{Events: history})
	}
	return x
}

// rowsIn tells the histories of tellings.
func rowsIn(x impl.Tellings) [][]impl.Event {
	var l [][]impl.Event
	for _, b := range x.Branches {
		l = append(l, b.Events)
	}
	return l
}

func sameTellings(a impl.Tellings, b impl.Tellings) bool {
	return slices.EqualFunc(a.Branches, b.Branches, func(one impl.Branch, two impl.Branch) bool {
		return slices.Equal(one.Events, two.Events)
	})
}

func copyTellings(x impl.Tellings) impl.Tellings {
	var l [][]impl.Event
	for _, b := range x.Branches {
		l = append(l, slices.Clip(slices.Clone(b.Events)))
	}
	return tellingsOf(l...)
}

// historyOf makes a row of events with Ids from 1 on out of words: of each event its Version, its Kind and its Name.
func historyOf(words ...any) []impl.Event {
	var l []impl.Event
	for i := 0; i < len(words); i += 3 {
		l = append(l, impl.Event{Id: i/3 + 1, Version: words[i].(int), Kind: words[i+1].(int), Name: words[i+2].(string)})
	}
	return l
}

// signalsOf makes a history of a start and a signal of each name that a text of names has, all of one Version.
func signalsOf(version int, names string) []impl.Event {
	return signalledOn(historyOf(version, impl.EvStart, ""), version, strings.Fields(names)...)
}

// wentOn makes a row with one event more.
func wentOn(l []impl.Event, version int, kind int, name string) []impl.Event {
	return append(slices.Clone(l), impl.Event{Id: len(l) + 1, Version: version, Kind: kind, Name: name})
}

// signalledOn makes a row with a signal of each of these names more.
func signalledOn(l []impl.Event, version int, names ...string) []impl.Event {
	for _, name := range names {
		l = wentOn(l, version, impl.EvSignal, name)
	}
	return l
}

// rowsOfSignals makes so many histories, each of a Version of its own and with as many signals as may be, no two of one name.
func rowsOfSignals(count int) [][]impl.Event {
	var l [][]impl.Event
	for version := range count {
		row := historyOf(version, impl.EvStart, "")
		for i := range 30 {
			row = wentOn(row, version, impl.EvSignal, "s"+strconv.Itoa(version*30+i))
		}
		l = append(l, row)
	}
	return l
}

// wentOnUpTo makes a row of so many events that begins with another one; what is done is told by the Version alone.
func wentOnUpTo(l []impl.Event, version int, count int) []impl.Event {
	for len(l) < count {
		l = wentOn(l, version, impl.EvTaskDone, "")
	}
	return l
}

// fan tells so many histories, rising, that part behind a common beginning, each with one event more than that.
func fan(first []impl.Event, count int) [][]impl.Event {
	var l [][]impl.Event
	version := 0
	if len(first) > 0 {
		version = first[len(first)-1].Version
	}
	for number := range count {
		kind := impl.EvTaskDone
		if len(first) == 0 {
			kind = impl.EvStart
		}
		l = append(l, wentOn(first, version+number, kind, nameAt(40-number)))
	}
	return l
}

// everyHistory tells all histories of up to so many events, of these Versions, kinds and names.
func everyHistory(most int, versions []int, kinds []int, names []string) [][]impl.Event {
	var all [][]impl.Event
	last := [][]impl.Event{nil}
	for range most {
		var longer [][]impl.Event
		for _, l := range last {
			for _, version := range versions {
				for _, kind := range kinds {
					for _, name := range names {
						if one := wentOn(l, version, kind, name); historyByWords(one) {
							longer = append(longer, one)
						}
					}
				}
			}
		}
		all = append(all, longer...)
		last = longer
	}
	return all
}

// everyTellings tells all tellings of up to so many branches out of histories.
func everyTellings(histories [][]impl.Event, most int) []impl.Tellings {
	sorted := slices.SortedFunc(slices.Values(histories), func(a []impl.Event, b []impl.Event) int {
		if lessByWords(a, b) {
			return -1
		}
		return 1
	})
	all := []impl.Tellings{{}}
	for _, l := range sorted {
		for _, x := range all {
			rows := rowsIn(x)
			apart := !slices.ContainsFunc(rows, func(row []impl.Event) bool { return beginsRow(row, l) })
			if len(rows) < most && apart {
				all = append(all, tellingsOf(append(rows, l)...))
			}
		}
	}
	return all
}

// someHistory draws a history that goes on from some beginning of another one, or from nothing.
func someHistory(from []impl.Event, most int, next func(below int) int) []impl.Event {
	l := slices.Clone(from[:oneOfNumbers(next, len(from), len(from), next(len(from)+1), min(1, len(from)))])
	count := len(l) + oneOfNumbers(next, 0, 1, 1, 2, next(6), most)
	if len(l) == 0 {
		l = historyOf(oneOfNumbers(next, 0, 0, 0, 10, 11), impl.EvStart, "")
	}
	version := l[len(l)-1].Version + oneOfNumbers(next, 0, 0, 0, 1, 9, 10)
	for len(l) < min(count, most) {
		e := impl.Event{Id: len(l) + 1, Version: version, Name: []string{"", "a", "b", "c", nameAt(next(45))}[next(5)]}
		e.Kind = oneOfNumbers(next, impl.EvSignal, impl.EvSignal, impl.EvTaskDone, impl.EvTimer, impl.EvCancel, impl.EvClose)
		if !comesBehind(l, e) {
			break
		}
		l = append(l, e)
	}
	return l
}

// someHistories draws so many histories, many of which begin alike.
func someHistories(count int, most int, next func(below int) int) [][]impl.Event {
	var l [][]impl.Event
	for len(l) < count {
		var from []impl.Event
		if len(l) > 0 {
			from = l[next(len(l))]
		}
		l = append(l, someHistory(from, most, next))
	}
	return l
}

// someTellings draws good tellings of at most so many branches.
func someTellings(count int, most int, next func(below int) int) impl.Tellings {
	x := togetherByWords(someHistories(count, most, next))
	x.Branches = x.Branches[:min(12, len(x.Branches))]
	return x
}
