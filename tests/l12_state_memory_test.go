package tests

import (
	"slices"
	"testing"

	"loop.example/g00269/impl"
)

const wrongName = "!behind!"

// namesBehind lays wrong names behind a list.
func namesBehind(l []string) []string {
	return append(slices.Clone(l), wrongName, wrongName, wrongName)[:len(l)]
}

// stateBehind lays wrong names behind each list of a state.
func stateBehind(s impl.State) impl.State {
	s.Signals = namesBehind(s.Signals)
	s.Timers = namesBehind(s.Timers)
	return s
}

// wholeState copies all that lies in the memory of a state, up to each capacity.
func wholeState(s impl.State) impl.State {
	s.Signals = s.Signals[:cap(s.Signals)]
	s.Timers = s.Timers[:cap(s.Timers)]
	return copyState(s)
}

// freshState makes a state of which each text has memory of its own.
func freshState(s impl.State) impl.State {
	s = copyState(s)
	for _, l := range [][]string{s.Signals, s.Timers} {
		for i := range l {
			l[i] = freshText(l[i])
		}
	}
	return s
}

// freshEvents makes a row of events of which each name has memory of its own.
func freshEvents(l []impl.Event) []impl.Event {
	l = slices.Clone(l)
	for i := range l {
		l[i].Name = freshText(l[i].Name)
	}
	return l
}

// answeredStates asks of a state what each kind of event makes of it, with many names; what is refused is asked, too.
func answeredStates(s impl.State) []impl.State {
	all := []impl.State{impl.NewState()}
	for kind := impl.EvStart - 1; kind <= impl.EvClose+1; kind++ {
		for _, name := range append(namesFor(s), "A") {
			for _, id := range []int{s.Next, s.Next + 1} {
				after, _ := impl.ApplyEvent(s, impl.Event{Id: id, Version: 5, Kind: kind, Name: freshText(name)})
				all = append(all, after)
			}
		}
	}
	return all
}

// answeredBools asks all else that is told of a state.
func answeredBools(s impl.State) []bool {
	all := []bool{impl.GoodState(s)}
	for kind := impl.EvStart - 1; kind <= impl.EvClose+1; kind++ {
		for _, name := range append(namesFor(s), "A") {
			may, ok := impl.MayCome(s, kind, name)
			all = append(all, may, ok)
		}
	}
	return all
}

// holdNothingBehindNames holds that behind an answer nothing lies.
func holdNothingBehindNames(t *testing.T, lists ...[]string) {
	t.Helper()
	for _, l := range lists {
		for _, name := range l[len(l):cap(l)] {
			if name != "" {
				t.Fatalf("behind the names %q lies %q", l, name)
			}
		}
	}
}

// fillNames writes over all that lists have, up to their capacity.
func fillNames(lists ...[]string) {
	for _, l := range lists {
		l = l[:cap(l)]
		for i := range l {
			l[i] = wrongName
		}
	}
}

// holdNoSharedNames holds that no text of one list lies in the memory of a text of the other.
func holdNoSharedNames(t *testing.T, a []string, b []string) {
	t.Helper()
	for _, one := range a {
		for _, two := range b {
			if shareBytes(one, two) {
				t.Fatalf("%q of %q and %q of %q share memory", one, a, two, b)
			}
		}
	}
}

// holdStateMemory holds that no state is changed, nothing behind its lists is read, and no answer shares memory with it or another one.
func holdStateMemory(t *testing.T, s impl.State) {
	t.Helper()
	want, told := answeredStates(copyState(s)), answeredBools(copyState(s))
	laid := stateBehind(s)
	kept := wholeState(laid)
	for range 2 {
		got := answeredStates(laid)
		if !slices.EqualFunc(got, want, sameStates) || !slices.Equal(answeredBools(laid), told) {
			t.Fatalf("%+v: what lies behind a list is read, or an answer was kept", s)
		}
		for i, answered := range got {
			holdNothingBehindNames(t, answered.Signals, answered.Timers)
			if !sameStates(answered, want[i]) {
				t.Fatalf("%+v: state %d of the answers shares memory with another one", s, i)
			}
			fillNames(answered.Signals)
			if !slices.Equal(answered.Timers, want[i].Timers) {
				t.Fatalf("%+v: the lists of state %d of the answers share memory", s, i)
			}
			fillNames(answered.Timers)
		}
		if !sameStates(wholeState(laid), kept) {
			t.Fatalf("the state %+v, or what lies behind it, is written into", s)
		}
	}
	// The answers stay what they are when the argument is changed.
	got := answeredStates(laid)
	fillNames(laid.Signals, laid.Timers)
	if !slices.EqualFunc(got, want, sameStates) {
		t.Fatalf("%+v: an answer lies in the memory of the argument", s)
	}
}

func TestStatesAreLeftAlone(t *testing.T) {
	for seed := range 300 {
		holdStateMemory(t, someState(numbersFrom(uint64(84000+seed))))
	}
	holdStateMemory(t, impl.NewState())
	holdStateMemory(t, impl.State{Status: impl.RunOpen, Next: 2, Signals: []string{}, Timers: []string{}})
	holdStateMemory(t, openState(namesUpTo(30), sortedNames(namesUpTo(30))))
	holdStateMemory(t, openState(namesUpTo(29), sortedNames(namesUpTo(29))))
	holdStateMemory(t, openState([]string{"a"}, []string{"a"}))
}

func TestBadStatesAreLeftAlone(t *testing.T) {
	for _, s := range badStates() {
		holdStateMemory(t, s)
	}
}

// A name that is told lies neither in the argument nor in the event, nor in both lists of the answer.
func TestStatesShareNoTexts(t *testing.T) {
	for seed := range 200 {
		next := numbersFrom(uint64(85000 + seed))
		s := freshState(someState(next))
		for kind := impl.EvStart; kind <= impl.EvClose; kind++ {
			for _, name := range namesFor(s) {
				name = freshText(name)
				after, ok := impl.ApplyEvent(s, impl.Event{Id: s.Next, Kind: kind, Name: name})
				if !ok {
					continue
				}
				given := append(slices.Concat(s.Signals, s.Timers), name)
				holdNoSharedNames(t, after.Signals, given)
				holdNoSharedNames(t, after.Timers, given)
				holdNoSharedNames(t, after.Signals, after.Timers)
			}
		}
	}
}

// Both lists of a state may lie in one memory, and a state in that of another one; nothing is to be seen of it.
func TestStatesInOneMemory(t *testing.T) {
	names := sortedNames(namesUpTo(32))
	kept := slices.Clone(names)
	for _, c := range [][4]int{{0, 5, 5, 10}, {0, 10, 0, 10}, {3, 9, 0, 6}, {0, 0, 0, 0}, {2, 32, 1, 31}, {0, 29, 0, 29}, {5, 6, 4, 7}} {
		s := openState(names[c[0]:c[1]], names[c[2]:c[3]])
		apart := copyState(s)
		holdState(t, s)
		if !slices.EqualFunc(answeredStates(s), answeredStates(apart), sameStates) {
			t.Errorf("%+v is answered otherwise where it lies in another memory", s)
		}
		for _, answered := range answeredStates(s) {
			fillNames(answered.Signals, answered.Timers)
		}
		if !slices.Equal(names, kept) {
			t.Fatal("an answer lies in the memory of an argument, or an argument is written into")
		}
	}
}

// A list ends where its length says, whatever lies behind it.
func TestNamesBehindTheList(t *testing.T) {
	signals := append(namesUpTo(40), "A")
	timers := append(sortedNames(namesUpTo(40)), "A")
	for length := range len(signals) + 1 {
		if good := impl.GoodState(openState(signals[:length], nil)); good != (length <= 30) {
			t.Errorf("%d signals: %v", length, good)
		}
		if good := impl.GoodState(openState(nil, timers[:length])); good != (length <= 30) {
			t.Errorf("%d timers: %v", length, good)
		}
	}
	// A name behind the list has not come, and is not set.
	s := openState([]string{"a", "b"}[:1], []string{"c", "d"}[:1])
	if after, ok := impl.ApplyEvent(s, impl.Event{Id: s.Next, Kind: impl.EvSignal, Name: "b"}); !ok || !slices.Equal(after.Signals, []string{"a", "b"}) {
		t.Error(after, ok)
	}
	if after, ok := impl.ApplyEvent(s, impl.Event{Id: s.Next, Kind: impl.EvTimer, Name: "d"}); !ok || !slices.Equal(after.Timers, []string{"c", "d"}) {
		t.Error(after, ok)
	}
	// Nor does a RunNone state have what lies behind its lists.
	if !impl.GoodState(impl.State{Next: 1, Signals: []string{"a"}[:0], Timers: []string{"A"}[:0]}) {
		t.Error("what lies behind a list is read")
	}
}

// holdRowMemory holds that no events are changed, nothing behind them is read, and no answer shares memory with them or another one.
func holdRowMemory(t *testing.T, l []impl.Event) {
	t.Helper()
	first, count := impl.FoldEvents(slices.Clip(slices.Clone(l)))
	want := copyState(first)
	is := impl.IsHistory(slices.Clip(slices.Clone(l)))
	laid := eventsBehind(freshEvents(l))
	kept := slices.Clone(laid[:cap(laid)])
	for range 2 {
		s, came := impl.FoldEvents(laid)
		names, ok := impl.SignalsIn(laid)
		if came != count || !sameStates(s, want) || impl.IsHistory(laid) != is || ok != is || ok && !slices.Equal(names, want.Signals) {
			t.Fatalf("%v: what lies behind the list is read, or an answer was kept", l)
		}
		for _, e := range laid {
			holdNoSharedNames(t, slices.Concat(s.Signals, s.Timers, names), []string{e.Name})
		}
		holdNoSharedNames(t, s.Signals, s.Timers)
		holdNoSharedNames(t, s.Signals, names)
		holdNothingBehindNames(t, s.Signals, s.Timers, names)
		fillNames(names)
		if !sameStates(s, want) {
			t.Fatalf("%v: two answers share memory", l)
		}
		fillNames(s.Signals, s.Timers)
		if !sameStates(first, want) || !slices.Equal(laid[:cap(laid)], kept) {
			t.Fatalf("the events %v, or what lies behind them, are written into, or two answers share memory", l)
		}
	}
}

func TestRowsAreLeftAlone(t *testing.T) {
	everyRow(nil, 3, []string{"", "a"}, func(l []impl.Event) { holdRowMemory(t, l) })
	for seed := range 150 {
		next := numbersFrom(uint64(86000 + seed))
		holdRowMemory(t, someRow(1+next(64), []int{5, 20, 1000}[next(3)], next))
	}
	for _, count := range []int{29, 30, 31, 59, 60} {
		holdRowMemory(t, startedWith(impl.EvSignal, namesUpTo(count)))
		holdRowMemory(t, startedWith(impl.EvTimer, namesUpTo(count)))
		holdRowMemory(t, startedWith(impl.EvTaskDone, namesUpTo(count)))
	}
	for _, e := range badEvents() {
		holdRowMemory(t, []impl.Event{{Id: 1, Kind: impl.EvStart}, {Id: 2, Kind: impl.EvSignal, Name: "a"}, e})
	}
	// Events behind the list are not read.
	l := startedWith(impl.EvTaskDone, make([]string, 69))
	l[50].Version = 6
	for length := range len(l) + 1 {
		if is := impl.IsHistory(l[:length]); is != (length <= 50) {
			t.Errorf("%d events: %v", length, is)
		}
		if s, came := impl.FoldEvents(l[:length]); came != length || s.Next != length+1 {
			t.Errorf("%d events: %+v, %d", length, s, came)
		}
	}
}
