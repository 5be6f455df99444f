package tests

import (
	"math"
	"slices"
	"testing"

	"loop.example/g00269/impl"
)

var wrongEvent = impl.Event{Id: -1, Version: math.MaxInt, Kind: 99, Name: wrongName}

// branchesBehind lays wrong events behind each branch, and wrong branches behind the list of them.
func branchesBehind(x impl.Tellings) impl.Tellings {
	var l [][]impl.Event
	for _, b := range x.Branches {
		l = append(l, eventsBehind(b.Events))
	}
	for range 3 {
		l = append(l, []impl.Event{wrongEvent})
	}
	laid := tellingsOf(l...)
	laid.Branches = laid.Branches[:len(x.Branches)]
	return laid
}

// wholeTellings copies all that lies in the memory of tellings, up to each capacity.
func wholeTellings(x impl.Tellings) impl.Tellings {
	var l [][]impl.Event
	for _, b := range x.Branches[:cap(x.Branches)] {
		l = append(l, slices.Clone(b.Events[:cap(b.Events)]))
	}
	return tellingsOf(l...)
}

// freshTellings makes tellings of which each name has memory of its own.
func freshTellings(x impl.Tellings) impl.Tellings {
	var l [][]impl.Event
	for _, b := range x.Branches {
		l = append(l, freshEvents(b.Events))
	}
	return tellingsOf(l...)
}

func namesOfEvents(l []impl.Event) []string {
	var names []string
	for _, e := range l {
		names = append(names, e.Name)
	}
	return names
}

// namesOfTellings tells the names of all events of all branches.
func namesOfTellings(x impl.Tellings) []string {
	var names []string
	for _, b := range x.Branches {
		names = append(names, namesOfEvents(b.Events)...)
	}
	return names
}

// fillEvents writes over all that a row has, up to its capacity.
func fillEvents(l []impl.Event) {
	l = l[:cap(l)]
	for i := range l {
		l[i] = wrongEvent
	}
}

// fillTellings writes over all branches, and then over the list of them, up to each capacity.
func fillTellings(x impl.Tellings) {
	l := x.Branches[:cap(x.Branches)]
	for i := range l {
		fillEvents(l[i].Events)
		l[i] = impl.Branch{Events: []impl.Event{wrongEvent}}
	}
}

// What is told of two tellings and a row of events; what is refused is asked, too.
type toldOfBranches struct {
	tellings []impl.Tellings
	rows     [][]impl.Event
	names    [][]string
	numbers  []int
}

func tellBranches(a impl.Tellings, b impl.Tellings, l []impl.Event) toldOfBranches {
	var told toldOfBranches
	is := map[bool]int{false: 0, true: 1}
	for _, pair := range [][2]impl.Tellings{{a, b}, {b, a}, {a, a}} {
		x, ok := impl.MergeTellings(pair[0], pair[1])
		told.tellings, told.numbers = append(told.tellings, x), append(told.numbers, is[ok])
	}
	for _, x := range []impl.Tellings{a, b} {
		after, ok := impl.AddBranch(x, l)
		current, also := impl.CurrentOf(x)
		lost, fine := impl.LostSignals(x)
		count, counted := impl.EventsIn(x)
		has, asked := impl.HasHistory(x, l)
		told.tellings, told.rows, told.names = append(told.tellings, after), append(told.rows, current), append(told.names, lost)
		told.numbers = append(told.numbers, is[ok], is[also], is[fine], count, is[counted], is[has], is[asked], is[impl.GoodTellings(x)])
		for _, b := range x.Branches {
			less, ok := impl.BranchLess(b.Events, l)
			more, also := impl.BranchLess(l, b.Events)
			told.numbers = append(told.numbers, is[less], is[ok], is[more], is[also])
		}
	}
	return told
}

func sameTold(a toldOfBranches, b toldOfBranches) bool {
	return slices.EqualFunc(a.tellings, b.tellings, sameTellings) && slices.EqualFunc(a.rows, b.rows, slices.Equal[[]impl.Event]) &&
		slices.EqualFunc(a.names, b.names, slices.Equal[[]string]) && slices.Equal(a.numbers, b.numbers)
}

// holdNothingBehindTold holds that behind the lists of the answers nothing lies.
func holdNothingBehindTold(t *testing.T, told toldOfBranches) {
	t.Helper()
	rows := slices.Clone(told.rows)
	for _, x := range told.tellings {
		rows = append(rows, rowsIn(x)...)
		for _, b := range x.Branches[len(x.Branches):cap(x.Branches)] {
			if b.Events != nil {
				t.Fatalf("behind the branches %v lies %v", x, b)
			}
		}
	}
	for _, l := range rows {
		for _, e := range l[len(l):cap(l)] {
			if e != (impl.Event{}) {
				t.Fatalf("behind the events %v lies %v", l, e)
			}
		}
	}
	holdNothingBehindNames(t, told.names...)
}

// holdToldApart holds that no name of an answer lies in the memory of a name that was given, and no two branches of one answer share names.
func holdToldApart(t *testing.T, told toldOfBranches, given []string) {
	t.Helper()
	for _, x := range told.tellings {
		holdNoSharedNames(t, namesOfTellings(x), given)
		for i, one := range x.Branches {
			for _, two := range x.Branches[:i] {
				holdNoSharedNames(t, namesOfEvents(one.Events), namesOfEvents(two.Events))
			}
		}
	}
	for _, l := range told.rows {
		holdNoSharedNames(t, namesOfEvents(l), given)
	}
	holdNoSharedNames(t, slices.Concat(told.names...), given)
}

// holdListsApart writes over the answers one by one, each branch of tellings on its own, and holds that all others stay.
func holdListsApart(t *testing.T, told toldOfBranches, want toldOfBranches) {
	t.Helper()
	for i, x := range told.tellings {
		for j, b := range x.Branches {
			if !slices.Equal(b.Events, want.tellings[i].Branches[j].Events) {
				t.Fatalf("branch %d of answer %d shares memory with another list: %v", j, i, b)
			}
			fillEvents(b.Events)
		}
		fillTellings(x)
	}
	for i, l := range told.rows {
		if !slices.Equal(l, want.rows[i]) {
			t.Fatalf("row %d of the answers shares memory with another list: %v", i, l)
		}
		fillEvents(l)
	}
	for i, l := range told.names {
		if !slices.Equal(l, want.names[i]) {
			t.Fatalf("names %d of the answers share memory with another list: %q", i, l)
		}
		fillNames(l)
	}
}

// holdBranchMemory holds that no argument is changed, nothing behind its lists is read, and no answer shares memory with one or with another answer.
func holdBranchMemory(t *testing.T, a impl.Tellings, b impl.Tellings, l []impl.Event) {
	t.Helper()
	want := tellBranches(copyTellings(a), copyTellings(b), slices.Clip(slices.Clone(l)))
	one, two, row := branchesBehind(freshTellings(a)), branchesBehind(freshTellings(b)), eventsBehind(freshEvents(l))
	keptOne, keptTwo, keptRow := wholeTellings(one), wholeTellings(two), slices.Clone(row[:cap(row)])
	given := slices.Concat(namesOfTellings(one), namesOfTellings(two), namesOfEvents(row))
	for range 2 {
		told := tellBranches(one, two, row)
		if !sameTold(told, want) {
			t.Fatalf("%v, %v, %v: what lies behind a list is read, or an answer was kept", a, b, l)
		}
		holdNothingBehindTold(t, told)
		holdToldApart(t, told, given)
		holdListsApart(t, told, want)
		if !sameTellings(wholeTellings(one), keptOne) || !sameTellings(wholeTellings(two), keptTwo) || !slices.Equal(row[:cap(row)], keptRow) {
			t.Fatalf("%v, %v or %v, or what lies behind, is written into", a, b, l)
		}
	}
	// The answers stay what they are when the arguments are changed.
	told := tellBranches(one, two, row)
	fillTellings(one)
	fillTellings(two)
	fillEvents(row)
	if !sameTold(told, want) {
		t.Fatalf("%v, %v, %v: an answer lies in the memory of an argument", a, b, l)
	}
}

func TestBranchesAreLeftAlone(t *testing.T) {
	for seed := range 150 {
		next := numbersFrom(uint64(99000 + seed))
		histories := someHistories(3+next(20), oneOfNumbers(next, 3, 6, 12), next)
		a, b := togetherByWords(histories[:len(histories)/2]), togetherByWords(histories[len(histories)/3:])
		l := histories[next(len(histories))]
		holdBranchMemory(t, a, b, l)
		holdBranchMemory(t, a, impl.Tellings{}, l[:1+next(len(l))])
		holdBranchMemory(t, a, a, wentOn(l, 900, impl.EvTaskDone, "new"))
	}
	full := tellingsOf(fan(signalsOf(3, "a"), 12)...)
	for _, l := range [][]impl.Event{
		// There, a beginning of all, one that takes the place of another one, and one too many.
		full.Branches[4].Events, signalsOf(3, "a"), wentOn(full.Branches[4].Events, 90, impl.EvSignal, "b"), signalsOf(3, "b"), nil, {}, signalsOf(3, "a a"),
	} {
		for _, x := range []impl.Tellings{{}, {Branches: []impl.Branch{}}, full, tellingsOf(fan(signalsOf(3, "a"), 11)...), tellingsOf(signalsOf(2, "a"))} {
			holdBranchMemory(t, full, x, l)
			holdBranchMemory(t, x, x, l)
		}
	}
}

func TestFullTellingsAreLeftAlone(t *testing.T) {
	for _, x := range fullTellings() {
		for _, l := range [][]impl.Event{x.Branches[0].Events[:59], wentOn(signalsOf(3, "a"), 3, impl.EvClose, "")} {
			holdBranchMemory(t, x, tellingsOf(x.Branches[11].Events), l)
		}
	}
}

func TestBadTellingsAreLeftAlone(t *testing.T) {
	for i, x := range badTellings() {
		holdBranchMemory(t, x, tellingsOf(signalsOf(3, "a")), signalsOf(3, "b"))
		if i%3 == 0 {
			holdBranchMemory(t, tellingsOf(signalsOf(3, "a")), x, signalsOf(3, "a b"))
		}
	}
	for _, l := range noTellings() {
		holdBranchMemory(t, tellingsOf(signalsOf(3, "a")), tellingsOf(signalsOf(3, "b")), l)
	}
}

// Branches and a row may lie in one memory, as beginnings of one history do; nothing is to be seen of it.
func TestBranchesInOneMemory(t *testing.T) {
	whole := signalsOf(3, "a b c d e f")
	other := signalsOf(3, "b a")
	keptWhole, keptOther := slices.Clone(whole), slices.Clone(other)
	for i := 1; i <= len(whole); i++ {
		for j := 1; j <= len(whole); j++ {
			for _, l := range [][]impl.Event{whole[:3], whole, other[:1], other} {
				a, b := tellingsOf(whole[:i], other), tellingsOf(whole[:j])
				want := tellBranches(copyTellings(a), copyTellings(b), slices.Clone(l))
				told := tellBranches(a, b, l)
				if !sameTold(told, want) {
					t.Fatalf("%v, %v, %v are answered otherwise where they lie in another memory", a, b, l)
				}
				holdListsApart(t, told, want)
				if !slices.Equal(whole, keptWhole) || !slices.Equal(other, keptOther) {
					t.Fatal("an answer lies in the memory of an argument, or an argument is written into")
				}
			}
		}
	}
	// One list of branches, of which both tellings are pieces.
	branches := tellingsOf(fan(signalsOf(3, "a"), 14)...).Branches
	kept := copyTellings(impl.Tellings{Branches: branches})
	for from := range 14 {
		for to := from; to <= min(14, from+12); to++ {
			a, b := impl.Tellings{Branches: branches[from:to]}, impl.Tellings{Branches: branches[1:7]}
			holdTogether(t, a, b)
			for _, x := range tellBranches(a, b, branches[to%14].Events).tellings {
				fillTellings(x)
			}
			if !sameTellings(impl.Tellings{Branches: branches}, kept) {
				t.Fatal("an answer lies in the memory of an argument, or an argument is written into")
			}
		}
	}
}

// A list ends where its length says, whatever lies behind it.
func TestBranchesBehindTheList(t *testing.T) {
	branches := tellingsOf(fan(signalsOf(3, "a"), 20)...).Branches
	for length := range len(branches) + 1 {
		x := impl.Tellings{Branches: branches[:length]}
		if good := impl.GoodTellings(x); good != (length <= 12) {
			t.Errorf("%d branches: %v", length, good)
		}
		if length > 0 && length <= 12 {
			if count, ok := impl.EventsIn(x); count != length+2 || !ok {
				t.Errorf("%d branches: %d events, %v", length, count, ok)
			}
			// A branch behind the list is none that is there.
			if has, ok := impl.HasHistory(x, branches[length].Events); has || !ok {
				t.Errorf("%d branches: %v, %v", length, has, ok)
			}
		}
	}
	// Nor are events behind a row part of it.
	row := signalsOf(3, "a b c b")
	for length := range len(row) + 1 {
		x := tellingsOf(row[:length])
		if good := impl.GoodTellings(x); good != (length >= 1 && length <= 4) {
			t.Errorf("%d events: %v", length, good)
		}
		if length >= 1 && length < 4 {
			if has, ok := impl.HasHistory(x, row[:length+1]); has || !ok {
				t.Errorf("%d events: %v, %v", length, has, ok)
			}
			if less, ok := impl.BranchLess(row[:length], row[:length+1]); !less || !ok {
				t.Errorf("%d events: %v, %v", length, less, ok)
			}
		}
	}
}
