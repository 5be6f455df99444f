package tests

import (
	"math"
	"slices"
	"strings"
	"sync"
	"testing"

	"loop.example/g00269/impl"
)

// noKinds are numbers that no kind of event has.
var noKinds = append([]int{-1, -2, 0, 7, 8, 256 + impl.EvStart}, farNumbers...)

// noNames are texts that no event has as its name.
var noNames = []string{longestName + "a", strings.Repeat("a", 1000), "A", "Z", "a.b", " ", "a ", "é", "\x00", "a\x00", "\xff", "`", "{", "/", ":"}

// namesFor tells names at and around those of a state, the first and the last ones of each list among them.
func namesFor(s impl.State) []string {
	names := []string{"", "0", "a", "zzzzzzzzzzzz", longestName, "new1", "kx7"}
	for _, l := range [][]string{s.Signals, s.Timers} {
		if count := len(l); count > 0 {
			names = append(names, l[0], l[count/2], l[count-1])
		}
	}
	return names
}

// holdState holds all that is told of a good state.
func holdState(t *testing.T, s impl.State) {
	t.Helper()
	if !impl.GoodState(s) {
		t.Fatalf("GoodState refuses %+v", s)
	}
	for kind := impl.EvStart; kind <= impl.EvClose; kind++ {
		for i, name := range namesFor(s) {
			holdComing(t, s, kind, name)
			holdApply(t, s, impl.Event{Id: s.Next, Version: []int{0, 1, 999999, 1000000}[i%4], Kind: kind, Name: name})
		}
		holdOtherIds(t, s, kind)
		for _, name := range noNames {
			holdComingRefused(t, s, kind, name)
			holdApplyRefused(t, s, impl.Event{Id: s.Next, Kind: kind, Name: name})
		}
		for _, version := range append([]int{-1, 1000001}, farNumbers...) {
			holdApplyRefused(t, s, impl.Event{Id: s.Next, Version: version, Kind: kind, Name: "kx7"})
		}
	}
	for _, kind := range noKinds {
		holdComingRefused(t, s, kind, "kx7")
		holdComingRefused(t, s, kind, "")
		holdApplyRefused(t, s, impl.Event{Id: s.Next, Kind: kind, Name: "kx7"})
	}
}

// holdOtherIds holds that Ids go one by one: no event but that with Next comes.
func holdOtherIds(t *testing.T, s impl.State, kind int) {
	t.Helper()
	for _, id := range append([]int{-1, 0, 1, 2, 999, 1000, 1001, 1002, s.Next - 2, s.Next - 1, s.Next + 1, s.Next + 2, -s.Next}, farNumbers...) {
		if id != s.Next {
			holdApplyRefused(t, s, impl.Event{Id: id, Version: 10, Kind: kind, Name: "kx7"})
		}
	}
}

func holdComing(t *testing.T, s impl.State, kind int, name string) {
	t.Helper()
	may, ok := impl.MayCome(s, kind, name)
	if want := mayByWords(s, kind, name); !ok || may != want {
		t.Fatalf("MayCome %+v, %d, %q: %v, %v, not %v", s, kind, name, may, ok, want)
	}
}

func holdComingRefused(t *testing.T, s impl.State, kind int, name string) {
	t.Helper()
	if may, ok := impl.MayCome(s, kind, name); may || ok {
		t.Fatalf("MayCome %+v, %d, %q: %v, %v", s, kind, name, may, ok)
	}
}

func holdApply(t *testing.T, s impl.State, e impl.Event) {
	t.Helper()
	want, good := applyByWords(s, e)
	after, ok := impl.ApplyEvent(s, e)
	if ok != good || !sameStates(after, want) {
		t.Fatalf("ApplyEvent %+v, %+v: %+v, %v, not %+v, %v", s, e, after, ok, want, good)
	}
	if ok && !impl.GoodState(after) {
		t.Fatalf("ApplyEvent %+v, %+v: %+v is not good", s, e, after)
	}
}

func holdApplyRefused(t *testing.T, s impl.State, e impl.Event) {
	t.Helper()
	if after, ok := impl.ApplyEvent(s, e); ok || !isZeroState(after) {
		t.Fatalf("ApplyEvent %+v, %+v: %+v, %v", s, e, after, ok)
	}
}

// holdStateRefused holds the zero answer of each function where a state is not good.
func holdStateRefused(t *testing.T, s impl.State) {
	t.Helper()
	if impl.GoodState(s) {
		t.Fatalf("GoodState takes %+v", s)
	}
	for kind := impl.EvStart - 1; kind <= impl.EvClose+1; kind++ {
		for _, name := range append(namesFor(s), "A") {
			holdComingRefused(t, s, kind, name)
			for _, id := range []int{s.Next, 1, 2, 1000} {
				holdApplyRefused(t, s, impl.Event{Id: id, Version: 10, Kind: kind, Name: name})
			}
		}
	}
}

// holdEitherState holds a state by whether the words call it good; it tells that.
func holdEitherState(t *testing.T, s impl.State) bool {
	t.Helper()
	if goodStateByWords(s) {
		holdState(t, s)
		return true
	}
	holdStateRefused(t, s)
	return false
}

// holdRow holds promise 12 of any row of events: what comes makes the state one by one, and what does not changes nothing.
func holdRow(t *testing.T, l []impl.Event) (impl.State, int) {
	t.Helper()
	came := cameOf(l)
	s, count := impl.FoldEvents(l)
	if want := rowMakes(l[:came]); count != came || !sameStates(s, want) {
		t.Fatalf("FoldEvents %v: %+v, %d, not %+v, %d", l, s, count, want, came)
	}
	if !impl.GoodState(s) {
		t.Fatalf("FoldEvents %v: %+v is not good", l, s)
	}
	holdOneByOne(t, l, came)
	holdHistory(t, l)
	return s, count
}

// holdOneByOne applies each event to what the ones ahead of it made.
func holdOneByOne(t *testing.T, l []impl.Event, came int) {
	t.Helper()
	s := impl.NewState()
	for i, e := range l[:came] {
		if may, ok := impl.MayCome(s, e.Kind, e.Name); !may || !ok {
			t.Fatalf("MayCome %+v, %+v: %v, %v", s, e, may, ok)
		}
		after, ok := impl.ApplyEvent(s, e)
		if want := rowMakes(l[:i+1]); !ok || !sameStates(after, want) {
			t.Fatalf("ApplyEvent %+v, %+v: %+v, %v, not %+v", s, e, after, ok, want)
		}
		s = after
		if first, count := impl.FoldEvents(l[:i+1]); count != i+1 || !sameStates(first, s) {
			t.Fatalf("FoldEvents %v: %+v, %d, not %+v", l[:i+1], first, count, s)
		}
	}
	if came < len(l) {
		holdApplyRefused(t, s, l[came])
	}
}

func holdHistory(t *testing.T, l []impl.Event) {
	t.Helper()
	want := historyByWords(l)
	if is := impl.IsHistory(l); is != want {
		t.Fatalf("IsHistory %v: %v", l, is)
	}
	names, ok := impl.SignalsIn(l)
	if ok != want || ok && !slices.Equal(names, signalNames(l)) || !ok && len(names) != 0 {
		t.Fatalf("SignalsIn %v: %v, %v", l, names, ok)
	}
}

// openState makes an open state, with Next so far on that the names could have come.
func openState(signals []string, timers []string) impl.State {
	return impl.State{Status: impl.RunOpen, Next: 2 + len(signals) + len(timers), Signals: signals, Timers: timers}
}

func TestStatusesAreAsTold(t *testing.T) {
	if impl.RunNone != 0 || impl.RunOpen != 1 || impl.RunClosed != 2 {
		t.Error(impl.RunNone, impl.RunOpen, impl.RunClosed)
	}
	for number := range 60 {
		if !goodNameByWords(nameAt(number)) || slices.Contains(namesUpTo(number), nameAt(number)) {
			t.Error(number, nameAt(number))
		}
	}
}

func TestNewState(t *testing.T) {
	s := impl.NewState()
	if !sameStates(s, impl.State{Status: impl.RunNone, Next: 1}) {
		t.Errorf("NewState: %+v", s)
	}
	holdState(t, s)
	for kind := impl.EvStart; kind <= impl.EvClose; kind++ {
		if may, ok := impl.MayCome(s, kind, ""); !ok || may != (kind == impl.EvStart) {
			t.Error(kind, may, ok)
		}
	}
	if impl.GoodState(impl.State{}) {
		t.Error("the zero state is good, but its Next is 0")
	}
}

// What each kind makes of one open state.
func TestNamedApplies(t *testing.T) {
	open := impl.State{Status: 1, Next: 9, Done: 2, Signals: []string{"pay", "a"}, Timers: []string{"b", "t"}}
	for _, c := range []struct {
		kind int
		name string
		want impl.State
	}{
		{impl.EvSignal, "0", impl.State{Status: 1, Next: 10, Done: 2, Signals: []string{"pay", "a", "0"}, Timers: []string{"b", "t"}}},
		{impl.EvSignal, "t", impl.State{Status: 1, Next: 10, Done: 2, Signals: []string{"pay", "a", "t"}, Timers: []string{"b", "t"}}},
		{impl.EvSignal, "", impl.State{Status: 1, Next: 10, Done: 2, Signals: []string{"pay", "a", ""}, Timers: []string{"b", "t"}}},
		{impl.EvTaskDone, "x", impl.State{Status: 1, Next: 10, Done: 3, Signals: []string{"pay", "a"}, Timers: []string{"b", "t"}}},
		// Timers that are not set: ahead of all, between two, behind all.
		{impl.EvTimer, "a", impl.State{Status: 1, Next: 10, Done: 2, Signals: []string{"pay", "a"}, Timers: []string{"a", "b", "t"}}},
		{impl.EvTimer, "", impl.State{Status: 1, Next: 10, Done: 2, Signals: []string{"pay", "a"}, Timers: []string{"", "b", "t"}}},
		{impl.EvTimer, "bb", impl.State{Status: 1, Next: 10, Done: 2, Signals: []string{"pay", "a"}, Timers: []string{"b", "bb", "t"}}},
		{impl.EvTimer, "t0", impl.State{Status: 1, Next: 10, Done: 2, Signals: []string{"pay", "a"}, Timers: []string{"b", "t", "t0"}}},
		{impl.EvTimer, longestName, impl.State{Status: 1, Next: 10, Done: 2, Signals: []string{"pay", "a"}, Timers: []string{longestName, "b", "t"}}},
		// Timers that are set: the first one and the last one.
		{impl.EvTimer, "b", impl.State{Status: 1, Next: 10, Done: 2, Signals: []string{"pay", "a"}, Timers: []string{"t"}}},
		{impl.EvTimer, "t", impl.State{Status: 1, Next: 10, Done: 2, Signals: []string{"pay", "a"}, Timers: []string{"b"}}},
		{impl.EvCancel, "x", impl.State{Status: 1, Next: 10, Cancel: true, Done: 2, Signals: []string{"pay", "a"}, Timers: []string{"b", "t"}}},
		{impl.EvClose, "x", impl.State{Status: 2, Next: 10, Done: 2, Signals: []string{"pay", "a"}}},
	} {
		for _, version := range []int{0, 10, 1000000} {
			after, ok := impl.ApplyEvent(open, impl.Event{Id: 9, Version: version, Kind: c.kind, Name: c.name})
			if !ok || !sameStates(after, c.want) {
				t.Errorf("kind %d, %q: %+v, %v", c.kind, c.name, after, ok)
			}
		}
		if may, ok := impl.MayCome(open, c.kind, c.name); !may || !ok {
			t.Errorf("MayCome: kind %d, %q: %v, %v", c.kind, c.name, may, ok)
		}
	}
	holdApplyRefused(t, open, impl.Event{Id: 9, Kind: impl.EvStart})
	holdApplyRefused(t, open, impl.Event{Id: 9, Kind: impl.EvSignal, Name: "pay"})
	holdApplyRefused(t, open, impl.Event{Id: 9, Kind: impl.EvSignal, Name: "a"})
	holdState(t, open)
}

// Each kind at each Status, with Cancel and without.
func TestKindsAtEachStatus(t *testing.T) {
	for _, cancel := range []bool{false, true} {
		open := impl.State{Status: impl.RunOpen, Next: 5, Cancel: cancel, Timers: []string{"t"}}
		closed := impl.State{Status: impl.RunClosed, Next: 5, Cancel: cancel}
		for kind := impl.EvStart; kind <= impl.EvClose; kind++ {
			for _, name := range []string{"", "t", "x", longestName} {
				may, ok := impl.MayCome(impl.NewState(), kind, name)
				if !ok || may != (kind == impl.EvStart) {
					t.Errorf("new, kind %d: %v, %v", kind, may, ok)
				}
				may, ok = impl.MayCome(open, kind, name)
				if !ok || may != (kind != impl.EvStart && !(kind == impl.EvCancel && cancel)) {
					t.Errorf("open, kind %d: %v, %v", kind, may, ok)
				}
				if may, ok = impl.MayCome(closed, kind, name); !ok || may {
					t.Errorf("closed, kind %d: %v, %v", kind, may, ok)
				}
			}
		}
		holdState(t, open)
		holdState(t, closed)
	}
}

func TestCancelOnceAndTwice(t *testing.T) {
	l := rowOf(0, impl.EvStart, impl.EvCancel, impl.EvTaskDone, impl.EvCancel)
	if s, count := holdRow(t, l); count != 3 || !s.Cancel || s.Done != 1 {
		t.Error(s, count)
	}
	if s, count := holdRow(t, rowOf(0, impl.EvStart, impl.EvCancel, impl.EvCancel)); count != 2 || !s.Cancel || s.Status != impl.RunOpen {
		t.Error(s, count)
	}
	// What is to be cancelled goes on till it is closed.
	l = rowOf(0, impl.EvStart, impl.EvCancel, impl.EvSignal, "a", impl.EvTimer, "t", impl.EvClose)
	if s, count := holdRow(t, l); count != 5 || !s.Cancel || s.Status != impl.RunClosed || len(s.Signals) != 1 || len(s.Timers) != 0 {
		t.Error(s, count)
	}
}

func TestCloseLeavesNoTimers(t *testing.T) {
	for _, count := range []int{0, 1, 2, 29, 30} {
		timers := sortedNames(namesUpTo(count))
		s := openState([]string{"pay", ""}, timers)
		s.Done, s.Cancel = 3, true
		after, ok := impl.ApplyEvent(s, impl.Event{Id: s.Next, Kind: impl.EvClose})
		want := impl.State{Status: impl.RunClosed, Next: s.Next + 1, Cancel: true, Done: 3, Signals: []string{"pay", ""}}
		if !ok || !sameStates(after, want) {
			t.Errorf("%d timers: %+v, %v", count, after, ok)
		}
		holdState(t, after)
		l := append(startedWith(impl.EvTimer, timers), impl.Event{Id: count + 2, Version: 7, Kind: impl.EvClose})
		if s, came := holdRow(t, l); came != count+2 || len(s.Timers) != 0 || s.Status != impl.RunClosed {
			t.Errorf("%d timers: %+v, %d", count, s, came)
		}
	}
}

func TestHowManySignals(t *testing.T) {
	for count := range 31 {
		names := namesUpTo(count)
		s := openState(names, nil)
		holdState(t, s)
		if may, ok := impl.MayCome(s, impl.EvSignal, "kx7"); !ok || may != (count < 30) {
			t.Errorf("%d signals: %v, %v", count, may, ok)
		}
		if l, ok := impl.SignalsIn(startedWith(impl.EvSignal, names)); !ok || !slices.Equal(l, names) {
			t.Errorf("%d signals: %v, %v", count, l, ok)
		}
	}
	for _, count := range []int{31, 32, 45, 60} {
		holdStateRefused(t, openState(namesUpTo(count), nil))
		l := startedWith(impl.EvSignal, namesUpTo(count))
		if s, came := holdRow(t, l); came != 31 || len(s.Signals) != 30 {
			t.Errorf("%d signals: %+v, %d", count, s, came)
		}
	}
	// One that came already does not come, wherever it stands, also where there is no room.
	for _, count := range []int{1, 2, 29, 30} {
		s := openState(namesUpTo(count), nil)
		for _, name := range s.Signals {
			holdApplyRefused(t, s, impl.Event{Id: s.Next, Kind: impl.EvSignal, Name: name})
			holdStateRefused(t, openState(append(namesUpTo(count), name), nil))
		}
	}
}

func TestHowManyTimers(t *testing.T) {
	for count := range 31 {
		names := sortedNames(namesUpTo(count))
		s := openState(nil, names)
		holdState(t, s)
		if may, ok := impl.MayCome(s, impl.EvTimer, "kx7"); !ok || may != (count < 30) {
			t.Errorf("%d timers: %v, %v", count, may, ok)
		}
		// Each that is set can be turned off, the 30th, too.
		for i, name := range names {
			after, ok := impl.ApplyEvent(s, impl.Event{Id: s.Next, Kind: impl.EvTimer, Name: name})
			if !ok || !slices.Equal(after.Timers, slices.Delete(slices.Clone(names), i, i+1)) {
				t.Errorf("%d timers, %q: %+v, %v", count, name, after, ok)
			}
			back, ok := impl.ApplyEvent(after, impl.Event{Id: after.Next, Kind: impl.EvTimer, Name: name})
			if !ok || !slices.Equal(back.Timers, names) {
				t.Errorf("%d timers, %q: %+v, %v", count, name, back, ok)
			}
		}
	}
	for _, count := range []int{31, 32, 45, 60} {
		holdStateRefused(t, openState(nil, sortedNames(namesUpTo(count))))
		l := startedWith(impl.EvTimer, namesUpTo(count))
		if s, came := holdRow(t, l); came != 31 || len(s.Timers) != 30 {
			t.Errorf("%d timers: %+v, %d", count, s, came)
		}
	}
	// Where there is no room one that goes makes some.
	l := startedWith(impl.EvTimer, append(namesUpTo(30), nameAt(4), nameAt(30), nameAt(31)))
	if s, came := holdRow(t, l); came != 33 || len(s.Timers) != 30 || slices.Contains(s.Timers, nameAt(4)) {
		t.Error(s, came)
	}
}

// Timers rise, in whatever order they are set.
func TestTimersAreSetInAnyOrder(t *testing.T) {
	for seed := range 100 {
		next := numbersFrom(uint64(80000 + seed))
		names := someNames(1+next(30), next)
		s, came := holdRow(t, startedWith(impl.EvTimer, names))
		if came != len(names)+1 || !slices.Equal(s.Timers, sortedNames(names)) {
			t.Fatalf("%v: %+v, %d", names, s, came)
		}
		if len(s.Signals) != 0 {
			t.Fatalf("%+v", s)
		}
	}
}

func TestEdgesOfStates(t *testing.T) {
	// Signals may have the names of Timers.
	all := namesUpTo(30)
	for _, status := range []int{impl.RunOpen, impl.RunClosed} {
		for _, next := range []int{2, 3, 1000, 1001} {
			for _, done := range []int{0, 1, 999, 1000} {
				for _, cancel := range []bool{false, true} {
					holdState(t, impl.State{Status: status, Next: next, Cancel: cancel, Done: done})
					holdState(t, impl.State{Status: status, Next: next, Cancel: cancel, Done: done, Signals: all, Timers: sortedNames(all)})
				}
			}
		}
		for _, next := range append([]int{-2, -1, 0, 1, 1002, 1003}, farNumbers...) {
			holdStateRefused(t, impl.State{Status: status, Next: next})
			holdStateRefused(t, impl.State{Status: status, Next: next, Done: 1, Signals: []string{"a"}})
		}
		for _, done := range append([]int{-1, -2, 1001, 1002}, farNumbers...) {
			holdStateRefused(t, impl.State{Status: status, Next: 2, Done: done})
			holdStateRefused(t, impl.State{Status: status, Next: 1001, Done: done})
		}
		for _, name := range noNames {
			holdStateRefused(t, impl.State{Status: status, Next: 9, Signals: []string{name}})
			holdStateRefused(t, impl.State{Status: status, Next: 9, Timers: []string{name}})
		}
		for _, name := range []string{"", "0", "9", "a", "z", longestName, "zzzzzzzzzzzz"} {
			holdState(t, impl.State{Status: status, Next: 9, Signals: []string{name}})
			holdState(t, impl.State{Status: status, Next: 9, Timers: []string{name}})
		}
	}
	for _, status := range append([]int{-1, -2, 3, 4}, farNumbers...) {
		for _, next := range []int{1, 2, 500, 1001} {
			holdStateRefused(t, impl.State{Status: status, Next: next})
		}
	}
}

// At Next 1001 there is no event any more, for no good one has that Id.
func TestNothingComesBehindTheLastId(t *testing.T) {
	for kind := impl.EvStart; kind <= impl.EvClose; kind++ {
		s := impl.State{Status: impl.RunOpen, Next: 1001}
		if may, ok := impl.MayCome(s, kind, "a"); may || !ok {
			t.Errorf("kind %d: %v, %v", kind, may, ok)
		}
		holdApplyRefused(t, s, impl.Event{Id: 1001, Kind: kind, Name: "a"})
		holdApplyRefused(t, s, impl.Event{Id: 1000, Kind: kind, Name: "a"})
		s.Next = 1000
		after, ok := impl.ApplyEvent(s, impl.Event{Id: 1000, Kind: kind, Name: "a"})
		if ok != (kind != impl.EvStart) || ok && after.Next != 1001 {
			t.Errorf("kind %d: %+v, %v", kind, after, ok)
		}
	}
	// No more tasks than may be.
	s := impl.State{Status: impl.RunOpen, Next: 7, Done: 999}
	after, ok := impl.ApplyEvent(s, impl.Event{Id: 7, Kind: impl.EvTaskDone})
	if !ok || after.Done != 1000 {
		t.Errorf("%+v, %v", after, ok)
	}
	holdApplyRefused(t, after, impl.Event{Id: 8, Kind: impl.EvTaskDone})
	if may, ok := impl.MayCome(after, impl.EvTaskDone, ""); may || !ok {
		t.Error(may, ok)
	}
	if may, ok := impl.MayCome(after, impl.EvCancel, ""); !may || !ok {
		t.Error(may, ok)
	}
}

// badStates have one thing that is not as said.
func badStates() []impl.State {
	bad := []impl.State{
		{}, {Status: -1, Next: 1}, {Status: 3, Next: 2}, {Status: 3, Next: 1}, {Status: -1, Next: 2},
		// RunNone with anything that is not zero, or with another Next.
		{Next: 2}, {Next: -1}, {Next: 1001}, {Next: 1, Cancel: true}, {Next: 1, Done: 1}, {Next: 1, Done: -1},
		{Next: 1, Signals: []string{""}}, {Next: 1, Signals: []string{"a"}}, {Next: 1, Timers: []string{""}}, {Next: 1, Timers: []string{"t"}},
		{Status: 1, Next: 1}, {Status: 2, Next: 1}, {Status: 1, Next: 0}, {Status: 2, Next: 1002},
		{Status: 1, Next: 9, Done: -1}, {Status: 1, Next: 9, Done: 1001},
		// Two Signals alike, side by side and apart.
		{Status: 1, Next: 9, Signals: []string{"a", "a"}}, {Status: 1, Next: 9, Signals: []string{"", ""}},
		{Status: 1, Next: 9, Signals: []string{"a", "b", "a"}}, {Status: 2, Next: 9, Signals: []string{"b", "c", "a", "c"}},
		// Timers that are the same, or fall.
		{Status: 1, Next: 9, Timers: []string{"t", "t"}}, {Status: 1, Next: 9, Timers: []string{"", ""}}, {Status: 1, Next: 9, Timers: []string{"b", "a"}},
		{Status: 1, Next: 9, Timers: []string{"a", ""}}, {Status: 1, Next: 9, Timers: []string{"aa", "a"}}, {Status: 1, Next: 9, Timers: []string{"a", "0"}},
		{Status: 1, Next: 9, Timers: []string{"a", "c", "b"}}, {Status: 1, Next: 9, Timers: []string{"b", "c", "a"}},
		{Status: 1, Next: 99, Signals: namesUpTo(31)}, {Status: 2, Next: 99, Signals: namesUpTo(31)},
		{Status: 1, Next: 99, Timers: sortedNames(namesUpTo(31))}, {Status: 2, Next: 99, Timers: sortedNames(namesUpTo(31))},
		{Status: math.MinInt, Next: math.MinInt, Done: math.MinInt}, {Status: math.MaxInt, Next: math.MaxInt, Done: math.MaxInt},
	}
	for place := range 30 {
		for _, name := range []string{"A", "", longestName + "0", "\xff"} {
			s := openState(namesUpTo(31)[1:], nil)
			// At the first place the name of no bytes would be a good one.
			s.Signals[place] = name
			if name == "" {
				s.Signals[place] = s.Signals[(place+1)%30]
			}
			bad = append(bad, s)
		}
		timers := sortedNames(namesUpTo(30))
		for _, name := range []string{"A", "{", timers[(place+29)%30], timers[(place+1)%30]} {
			s := openState(nil, slices.Clone(timers))
			s.Timers[place] = name
			bad = append(bad, s)
		}
	}
	return bad
}

func TestBadStates(t *testing.T) {
	for _, s := range badStates() {
		if goodStateByWords(s) {
			t.Fatalf("%+v is to be bad", s)
		}
		holdStateRefused(t, s)
	}
}

// All states with numbers and lists out of a few.
func TestEveryState(t *testing.T) {
	lists := [][]string{nil, {}, {""}, {"a"}, {"a", "b"}, {"b", "a"}, {"a", "a"}, {"A"}}
	good, bad := 0, 0
	for status := -1; status <= 3; status++ {
		for _, next := range []int{0, 1, 2, 1001, 1002} {
			for _, done := range []int{-1, 0, 1, 1000, 1001} {
				for i := range 2 * len(lists) * len(lists) {
					s := impl.State{Status: status, Next: next, Cancel: i%2 == 1, Done: done}
					s.Signals, s.Timers = lists[i/2%len(lists)], lists[i/2/len(lists)]
					is := goodStateByWords(s)
					if impl.GoodState(s) != is {
						t.Fatalf("GoodState %+v: %v", s, !is)
					}
					if is {
						good++
					} else {
						bad++
					}
					if is || i%5 == 0 {
						holdEitherState(t, s)
					}
				}
			}
		}
	}
	if good < 500 || bad < 10000 {
		t.Error(good, bad)
	}
}

func TestManyStates(t *testing.T) {
	for seed := range 500 {
		next := numbersFrom(uint64(81000 + seed))
		s := someState(next)
		holdState(t, s)
		// What may come of it, on and on.
		for range 20 {
			e := impl.Event{Id: s.Next, Version: next(1000001), Kind: 1 + next(6), Name: nameAt(next(45))}
			holdApply(t, s, e)
			if after, ok := impl.ApplyEvent(s, e); ok {
				s = after
			}
		}
		holdState(t, s)
	}
}

func TestStatesThatAreChanged(t *testing.T) {
	good, bad := 0, 0
	for seed := range 1000 {
		next := numbersFrom(uint64(82000 + seed))
		s := someState(next)
		switch next(6) {
		case 0:
			s.Status += next(3) - 1
		case 1:
			s.Next += next(5) - 2
		case 2:
			s.Done += next(5) - 2
		case 3:
			s.Signals = append(s.Signals, []string{nameAt(next(45)), "A"}[next(2)])
		case 4:
			s.Timers = append(s.Timers, []string{nameAt(next(45)), "zzzzzzzzzzzzz"}[next(2)])
		default:
			s.Cancel = !s.Cancel
		}
		if holdEitherState(t, s) {
			good++
		} else {
			bad++
		}
	}
	if good < 200 || bad < 200 {
		t.Error(good, bad)
	}
}

func TestNamedRows(t *testing.T) {
	for _, c := range []struct {
		l    []impl.Event
		came int
		want impl.State
	}{
		{nil, 0, impl.State{Next: 1}},
		{[]impl.Event{}, 0, impl.State{Next: 1}},
		{rowOf(4, impl.EvStart, "x"), 1, impl.State{Status: 1, Next: 2}},
		{rowOf(4, impl.EvStart, impl.EvClose), 2, impl.State{Status: 2, Next: 3}},
		{rowOf(4, impl.EvStart, impl.EvTaskDone, impl.EvTaskDone), 3, impl.State{Status: 1, Next: 4, Done: 2}},
		// A name may be that of a signal and of a timer; a timer is set again when it was set no more.
		{rowOf(4, impl.EvStart, impl.EvSignal, "b", impl.EvTimer, "b", impl.EvSignal, "a", impl.EvTimer, "a"), 5, impl.State{Status: 1, Next: 6, Signals: []string{"b", "a"}, Timers: []string{"a", "b"}}},
		{rowOf(4, impl.EvStart, impl.EvTimer, "t", impl.EvTimer, "t"), 3, impl.State{Status: 1, Next: 4}},
		{rowOf(4, impl.EvStart, impl.EvTimer, "t", impl.EvTimer, "t", impl.EvTimer, "t"), 4, impl.State{Status: 1, Next: 5, Timers: []string{"t"}}},
		// The first one may not come, one in the midst, the last one.
		{rowOf(4, impl.EvSignal, "a", impl.EvStart), 0, impl.State{Next: 1}},
		{rowOf(4, impl.EvClose), 0, impl.State{Next: 1}},
		{rowOf(4, impl.EvStart, impl.EvStart, impl.EvTaskDone), 1, impl.State{Status: 1, Next: 2}},
		{rowOf(4, impl.EvStart, impl.EvSignal, "a", impl.EvSignal, "a", impl.EvTaskDone), 2, impl.State{Status: 1, Next: 3, Signals: []string{"a"}}},
		{rowOf(4, impl.EvStart, impl.EvClose, impl.EvTaskDone), 2, impl.State{Status: 2, Next: 3}},
		{rowOf(4, impl.EvStart, impl.EvClose, impl.EvClose), 2, impl.State{Status: 2, Next: 3}},
		{rowOf(4, impl.EvStart, impl.EvClose, impl.EvStart), 2, impl.State{Status: 2, Next: 3}},
		// Behind one that may not come none comes, also where it has the Id that would be next.
		{[]impl.Event{{Id: 1, Kind: 1}, {Id: 3, Kind: 3}, {Id: 2, Kind: 3}, {Id: 3, Kind: 3}}, 1, impl.State{Status: 1, Next: 2}},
		{[]impl.Event{{Id: 2, Kind: 1}, {Id: 1, Kind: 1}}, 0, impl.State{Next: 1}},
		{[]impl.Event{{Id: 1, Kind: 1}, {Id: 2, Kind: 1}, {Id: 2, Kind: 6}}, 1, impl.State{Status: 1, Next: 2}},
	} {
		if s, came := holdRow(t, c.l); came != c.came || !sameStates(s, c.want) {
			t.Errorf("FoldEvents %v: %+v, %d", c.l, s, came)
		}
		if is := impl.IsHistory(c.l); is != (c.came == len(c.l)) {
			t.Errorf("IsHistory %v: %v", c.l, is)
		}
	}
}

// All rows of few events, of all kinds and few names.
func TestEveryFewRows(t *testing.T) {
	histories, others := 0, 0
	count := func(l []impl.Event) {
		if _, came := holdRow(t, l); came == len(l) {
			histories++
		} else {
			others++
		}
	}
	everyRow(nil, 3, []string{"", "a"}, count)
	everyRow(rowOf(3, impl.EvStart), 5, []string{"", "a"}, count)
	everyRow(rowOf(3, impl.EvStart, impl.EvTimer, "b", impl.EvSignal, "b"), 5, []string{"a", "b", "c"}, count)
	if histories < 3000 || others < 5000 {
		t.Error(histories, others)
	}
}

// All rows of three events with each Id out of a few.
func TestEveryFewIds(t *testing.T) {
	histories := 0
	for first := range 5 {
		for second := range 5 {
			for third := range 5 {
				l := rowOf(3, impl.EvStart, impl.EvTaskDone, impl.EvCancel)
				l[0].Id, l[1].Id, l[2].Id = first, second, third
				if _, came := holdRow(t, l); came == 3 {
					histories++
				}
			}
		}
	}
	if histories != 1 {
		t.Error(histories)
	}
}

func TestManyRows(t *testing.T) {
	whole, cut := 0, 0
	for seed := range 400 {
		next := numbersFrom(uint64(83000 + seed))
		l := someRow(1+next(64), []int{5, 20, 1000}[next(3)], next)
		if _, came := holdRow(t, l); came == len(l) {
			whole++
		} else {
			cut++
		}
		e := &l[next(len(l))]
		switch next(5) {
		case 0:
			e.Id += next(5) - 2
		case 1:
			e.Version += next(9) - 6
		case 2:
			e.Kind = next(9) - 1
		case 3:
			e.Kind = oneOfNumbers(next, impl.EvStart, impl.EvCancel, impl.EvClose)
		default:
			e.Name = []string{"a", "A", longestName, longestName + "0"}[next(4)]
		}
		holdRow(t, l)
	}
	if whole < 100 || cut < 100 {
		t.Error(whole, cut)
	}
}

// A history has at most MaxEvents events; more of them make a state all the same, up to the last Id.
func TestHowManyEventsMakeAState(t *testing.T) {
	for count := range impl.MaxEvents + 5 {
		l := startedWith(impl.EvTaskDone, make([]string, 64))[:count]
		if s, came := holdRow(t, l); came != count || s.Next != count+1 || s.Done != max(0, count-1) {
			t.Errorf("%d events: %+v, %d", count, s, came)
		}
		if is := impl.IsHistory(l); is != (count <= 60) {
			t.Errorf("%d events: %v", count, is)
		}
		if names, ok := impl.SignalsIn(l); ok != (count <= 60) || len(names) != 0 {
			t.Errorf("%d events: %v, %v", count, names, ok)
		}
	}
	for _, count := range []int{61, 120, 999, 1000, 1001, 1002, 2000} {
		l := startedWith(impl.EvTaskDone, make([]string, count-1))
		s, came := impl.FoldEvents(l)
		if came != min(count, 1000) || !sameStates(s, impl.State{Status: 1, Next: came + 1, Done: came - 1}) {
			t.Errorf("%d events: %+v, %d", count, s, came)
		}
		if impl.IsHistory(l) {
			t.Errorf("%d events are a history", count)
		}
		if names, ok := impl.SignalsIn(l); ok || len(names) != 0 {
			t.Errorf("%d events: %v, %v", count, names, ok)
		}
	}
	// Of 61 events signals make a state, but are in no history.
	l := append(startedWith(impl.EvSignal, namesUpTo(30)), startedWith(impl.EvTimer, namesUpTo(60))[31:]...)
	if s, came := holdRow(t, l); came != 61 || len(s.Signals) != 30 || len(s.Timers) != 30 {
		t.Error(s, came)
	}
	if names, ok := impl.SignalsIn(l[:60]); !ok || !slices.Equal(names, namesUpTo(30)) {
		t.Error(names, ok)
	}
}

// Versions count for a history alone; events of any good ones make a state.
func TestVersionsOfHistories(t *testing.T) {
	for _, c := range []struct {
		versions []int
		is       bool
	}{
		{[]int{0, 0, 0}, true}, {[]int{1000000, 1000000, 1000000}, true}, {[]int{0, 1, 2}, true}, {[]int{0, 0, 1000000}, true},
		{[]int{5, 4, 4}, false}, {[]int{5, 5, 4}, false}, {[]int{0, 1, 0}, false}, {[]int{1000000, 0, 1}, false}, {[]int{9, 8, 9}, false},
	} {
		l := rowOf(0, impl.EvStart, impl.EvSignal, "a", impl.EvClose)
		for i := range l {
			l[i].Version = c.versions[i]
		}
		if s, came := holdRow(t, l); came != 3 || s.Status != impl.RunClosed {
			t.Error(c.versions, s, came)
		}
		if is := impl.IsHistory(l); is != c.is {
			t.Error(c.versions, is)
		}
		if names, ok := impl.SignalsIn(l); ok != c.is || ok && !slices.Equal(names, []string{"a"}) {
			t.Error(c.versions, names, ok)
		}
	}
	choices := []int{-1, 0, 1, 2, 1000001}
	for number := range len(choices) * len(choices) * len(choices) * len(choices) {
		l := rowOf(0, impl.EvStart, impl.EvTimer, "a", impl.EvSignal, "b", impl.EvTaskDone)
		for i := range l {
			l[i].Version = choices[number%len(choices)]
			number /= len(choices)
		}
		holdRow(t, l)
	}
	// One that falls at each place of the longest row, and one that rises there.
	for place := range impl.MaxEvents {
		for _, version := range []int{6, 7, 8} {
			l := startedWith(impl.EvTaskDone, make([]string, 59))
			l[place].Version = version
			is := version == 7 || version == 6 && place == 0 || version == 8 && place == 59
			if impl.IsHistory(l) != is {
				t.Errorf("version %d at %d: %v", version, place, !is)
			}
			if _, came := impl.FoldEvents(l); came != 60 {
				t.Errorf("version %d at %d: %d", version, place, came)
			}
		}
	}
}

// One event that is not good, at each place of a row: what is ahead of it makes the state.
func TestRowsWithBadEvents(t *testing.T) {
	for _, count := range []int{1, 2, 5, impl.MaxEvents} {
		for place := range count {
			for _, wrong := range badEvents() {
				l := startedWith(impl.EvTaskDone, make([]string, count-1))
				l[place] = wrong
				if s, came := holdRow(t, l); came != place || s.Next != place+1 {
					t.Fatalf("%+v at %d: %+v, %d", wrong, place, s, came)
				}
				// With the Id and the Version of its place, where it has good ones, so that Kind or Name alone is wrong.
				if wrong.Id == 3 && wrong.Version == 10 {
					l[place].Id, l[place].Version = place+1, 7
					if place == 0 && wrong.Kind == impl.EvSignal {
						l[place].Kind = impl.EvStart
					}
					if s, came := holdRow(t, l); came != place || s.Next != place+1 {
						t.Fatalf("%+v at %d: %+v, %d", l[place], place, s, came)
					}
				}
			}
		}
	}
}

func TestSignalsIn(t *testing.T) {
	l := rowOf(10, impl.EvStart, impl.EvSignal, "z", impl.EvTimer, "t", impl.EvSignal, "a", impl.EvCancel, impl.EvSignal, "", impl.EvSignal, longestName, impl.EvClose)
	if names, ok := impl.SignalsIn(l); !ok || !slices.Equal(names, []string{"z", "a", "", longestName}) {
		t.Error(names, ok)
	}
	// None of a history without signals, and of no events.
	for _, l := range [][]impl.Event{nil, {}, rowOf(0, impl.EvStart), rowOf(0, impl.EvStart, impl.EvTimer, "t", impl.EvClose)} {
		if names, ok := impl.SignalsIn(l); !ok || len(names) != 0 {
			t.Error(names, ok)
		}
	}
	// Nothing is told of what is no history, also not the signals of those that came.
	for _, l := range [][]impl.Event{
		rowOf(0, impl.EvSignal, "a"), rowOf(0, impl.EvStart, impl.EvSignal, "a", impl.EvStart),
		rowOf(0, impl.EvStart, impl.EvSignal, "a", impl.EvSignal, "a"), rowOf(0, impl.EvStart, impl.EvSignal, "a", 7),
		rowOf(0, impl.EvStart, impl.EvSignal, "a", impl.EvSignal, "A"), rowOf(0, impl.EvStart, impl.EvSignal, "a", impl.EvClose, impl.EvSignal, "b"),
	} {
		if names, ok := impl.SignalsIn(l); ok || len(names) != 0 {
			t.Errorf("SignalsIn %v: %v, %v", l, names, ok)
		}
	}
}

// Many who ask at once get what one gets.
func TestStatesAskedForAtOnce(t *testing.T) {
	var group sync.WaitGroup
	l := append(startedWith(impl.EvTimer, namesUpTo(30)), startedWith(impl.EvSignal, namesUpTo(59))[31:]...)
	want := rowMakes(l)
	for range 8 {
		group.Go(func() {
			for range 50 {
				s, came := impl.FoldEvents(l)
				if came != len(l) || !sameStates(s, want) {
					t.Errorf("FoldEvents: %+v, %d", s, came)
				}
				if after, ok := impl.ApplyEvent(want, impl.Event{Id: want.Next, Kind: impl.EvTimer, Name: want.Timers[0]}); !ok || len(after.Timers) != 29 {
					t.Errorf("ApplyEvent: %+v, %v", after, ok)
				}
				if names, ok := impl.SignalsIn(l); !ok || !slices.Equal(names, want.Signals) {
					t.Errorf("SignalsIn: %v, %v", names, ok)
				}
			}
		})
	}
	group.Wait()
}
