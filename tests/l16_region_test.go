package tests

import (
	"math"
	"slices"
	"strconv"
	"sync"
	"testing"

	"loop.example/g00269/impl"
)

// badWords are not good as a region's, each for one reason.
func badWords() []impl.Word {
	a, b := signalsOf(3, "a"), signalsOf(3, "b")
	var bad []impl.Word
	for _, version := range noVersions {
		bad = append(bad, wordOf(version))
		if version > 0 {
			bad = append(bad, wordOf(version, a), wordOf(version, a, b))
		}
	}
	for _, x := range badTellings() {
		bad = append(bad, impl.Word{Version: 1000000, Tellings: x})
	}
	// An event of a greater Version, by one and by many: the last one of some branch, or several of them.
	for _, l := range [][][]impl.Event{
		{historyOf(1, impl.EvStart, "")}, {historyOf(1000000, impl.EvStart, "")}, {a}, {a, b}, {a, wentOn(b, 4, impl.EvTaskDone, "")},
		{wentOn(a, 4, impl.EvTaskDone, ""), b}, {wentOn(a, 900, impl.EvTaskDone, ""), b, signalsOf(3, "c")}, {wentOnUpTo(a, 3, 59), wentOnUpTo(b, 7, 60)},
		fan(nil, 12), fan(a, 12), {signalsOf(3, "a"), signalsOf(4, "a"), signalsOf(5, "a")},
	} {
		newest := newestByWords(tellingsOf(l...))
		bad = append(bad, wordOf(newest-1, l...), wordOf(0, l...), wordOf(newest/2, l...))
	}
	return bad
}

// badRegions are not good, each for one reason.
func badRegions() []impl.Region {
	a, b := signalsOf(3, "a"), signalsOf(3, "b")
	var bad []impl.Region
	for _, id := range noRegions {
		bad = append(bad, regionOf(id, 0), regionOf(id, 1000000), regionOf(id, 3, a, b))
		// A Version that would tell such an Id, were it one.
		if isVersionByWords(id) {
			bad = append(bad, regionOf(id, id), regionOf(id, id, a))
		}
	}
	for i, w := range badWords() {
		bad = append(bad, impl.Region{Id: i % 10, Version: w.Version, Tellings: w.Tellings})
	}
	return bad
}

// holdCalled holds what a call at a good region comes to; it tells the code.
func holdCalled(t *testing.T, r impl.Region, kind int, name string) (impl.Region, int) {
	t.Helper()
	want, code := takeByWords(r, kind, name)
	after, got := impl.TakeCall(r, kind, name)
	if got != code || !sameRegions(after, want) {
		t.Fatalf("TakeCall %v, %d, %q: %v, %d, not %v, %d", r, kind, name, after, got, want, code)
	}
	if code != impl.CallOk {
		if !sameRegions(after, r) {
			t.Fatalf("TakeCall %v, %d, %q: %v, %d is not as it was", r, kind, name, after, got)
		}
		return after, code
	}
	holdExtended(t, r, after, 1)
	if active, ok := impl.IsActive(r); !active || !ok {
		t.Fatalf("TakeCall %v, %d, %q: a call is taken by who does not lead", r, kind, name)
	}
	return after, code
}

// holdExtended holds that the history that counts is the one that counted, with so many events of the region's Version behind it.
func holdExtended(t *testing.T, r impl.Region, after impl.Region, more int) {
	t.Helper()
	was, _ := impl.CurrentOf(r.Tellings)
	is, ok := impl.CurrentOf(after.Tellings)
	if !impl.GoodRegion(after) || after.Id != r.Id || after.Version != r.Version || ok != (len(was)+more > 0) || len(is) != len(was)+more || !slices.Equal(is[:len(was)], was) {
		t.Fatalf("%v became %v: %v does not go on from %v by %d", r, after, is, was, more)
	}
	for _, e := range is[len(was):] {
		if e.Version != r.Version {
			t.Fatalf("%v became %v: %v has another Version", r, after, e)
		}
	}
	for _, b := range r.Tellings.Branches {
		if has, ok := impl.HasHistory(after.Tellings, b.Events); !has || !ok {
			t.Fatalf("%v became %v: %v is not there any more", r, after, b)
		}
	}
}

// holdEachCall asks for calls of each kind, with names that are there and others; what is no kind and no name is asked, too.
func holdEachCall(t *testing.T, r impl.Region) {
	t.Helper()
	names := []string{"", "new", longestName, "A", longestName + "a"}
	for _, b := range r.Tellings.Branches {
		for _, e := range b.Events[:min(3, len(b.Events))] {
			names = append(names, e.Name)
		}
	}
	for _, kind := range []int{math.MinInt, -1, 0, 1, 2, 3, 4, 5, 6, 7, math.MaxInt} {
		for _, name := range sortedNames(names) {
			holdCalled(t, r, kind, name)
		}
	}
}

func holdLead(t *testing.T, r impl.Region) {
	t.Helper()
	want, ok := leadByWords(r)
	after, got := impl.TakeLead(r)
	if got != ok || !sameRegions(after, want) {
		t.Fatalf("TakeLead %v: %v, %v, not %v, %v", r, after, got, want, ok)
	}
	if active, good := impl.IsActive(after); ok && (!active || !good || after.Version <= r.Version) {
		t.Fatalf("TakeLead %v: %v does not lead", r, after)
	}
}

// holdReapply tells how many calls were taken.
func holdReapply(t *testing.T, r impl.Region) (impl.Region, int) {
	t.Helper()
	after, count, ok := impl.Reapply(r)
	if !activeByWords(r) {
		if ok || count != 0 || !isZeroRegion(after) {
			t.Fatalf("Reapply %v: %v, %d, %v", r, after, count, ok)
		}
		return r, 0
	}
	want, codes := reapplyByWords(r)
	taken := 0
	for _, code := range codes {
		if code == impl.CallOk {
			taken++
		}
	}
	if !ok || count != taken || !sameRegions(after, want) {
		t.Fatalf("Reapply %v: %v, %d, %v, not %v, %v", r, after, count, ok, want, codes)
	}
	holdExtended(t, r, after, count)
	if left, ok := impl.LostSignals(after.Tellings); !ok || len(left) != len(codes)-count {
		t.Fatalf("Reapply %v: %q are lost", r, left)
	}
	if again, count, ok := impl.Reapply(after); !ok || count != 0 || !sameRegions(again, after) {
		t.Fatalf("Reapply %v: %v, %d, %v", after, again, count, ok)
	}
	return after, count
}

// holdTold holds what is told of a good region alone.
func holdTold(t *testing.T, r impl.Region) {
	t.Helper()
	if !goodRegionByWords(r) || !impl.GoodRegion(r) {
		t.Fatalf("GoodRegion refuses %v", r)
	}
	if active, ok := impl.IsActive(r); !ok || active != activeByWords(r) {
		t.Fatalf("IsActive %v: %v, %v", r, active, ok)
	}
	if s, ok := impl.StateOf(r); !ok || !sameStates(s, rowMakes(currentByWords(r.Tellings))) || !impl.GoodState(s) {
		t.Fatalf("StateOf %v: %+v, %v", r, s, ok)
	}
	word, ok := impl.WordOf(r)
	if !ok || !sameWords(word, wordByWords(r)) {
		t.Fatalf("WordOf %v: %v, %v", r, word, ok)
	}
	if after, ok := impl.HearWord(r, word); !ok || !sameRegions(after, r) {
		t.Fatalf("HearWord %v of its own: %v, %v", r, after, ok)
	}
	holdLead(t, r)
	holdReapply(t, r)
}

// holdHeard holds what a good region makes of a good word; it tells whether there were not too many branches.
func holdHeard(t *testing.T, r impl.Region, w impl.Word) (impl.Region, bool) {
	t.Helper()
	want, ok := hearByWords(r, w)
	after, got := impl.HearWord(r, w)
	if got != ok || !sameRegions(after, want) {
		t.Fatalf("HearWord %v, %v: %v, %v, not %v, %v", r, w, after, got, want, ok)
	}
	if !ok {
		return r, false
	}
	if !impl.GoodRegion(after) {
		t.Fatalf("HearWord %v, %v: %v is not good", r, w, after)
	}
	if again, ok := impl.HearWord(after, w); !ok || !sameRegions(again, after) {
		t.Fatalf("HearWord %v, %v once more: %v, %v", after, w, again, ok)
	}
	return after, true
}

func holdHeardRefused(t *testing.T, r impl.Region, w impl.Word) {
	t.Helper()
	if after, ok := impl.HearWord(r, w); ok || !isZeroRegion(after) {
		t.Fatalf("HearWord %v, %v: %v, %v", r, w, after, ok)
	}
}

// holdRegionIsBad holds the zero answer of each function where a region is not good.
func holdRegionIsBad(t *testing.T, r impl.Region) {
	t.Helper()
	if impl.GoodRegion(r) {
		t.Fatalf("GoodRegion takes %v", r)
	}
	if active, ok := impl.IsActive(r); active || ok {
		t.Fatalf("IsActive %v: %v, %v", r, active, ok)
	}
	if s, ok := impl.StateOf(r); ok || !isZeroState(s) {
		t.Fatalf("StateOf %v: %+v, %v", r, s, ok)
	}
	if word, ok := impl.WordOf(r); ok || !isZeroWord(word) {
		t.Fatalf("WordOf %v: %v, %v", r, word, ok)
	}
	if after, ok := impl.TakeLead(r); ok || !isZeroRegion(after) {
		t.Fatalf("TakeLead %v: %v, %v", r, after, ok)
	}
	if after, count, ok := impl.Reapply(r); ok || count != 0 || !isZeroRegion(after) {
		t.Fatalf("Reapply %v: %v, %d, %v", r, after, count, ok)
	}
	for _, kind := range []int{0, 1, 2, 3, 6, 7} {
		for _, name := range []string{"", "a", "new", "A"} {
			if after, code := impl.TakeCall(r, kind, name); code != impl.CallBad || !isZeroRegion(after) {
				t.Fatalf("TakeCall %v, %d, %q: %v, %d", r, kind, name, after, code)
			}
		}
	}
	for _, w := range []impl.Word{{}, wordOf(1000000), wordOf(5, signalsOf(3, "a")), {Version: r.Version, Tellings: r.Tellings}} {
		holdHeardRefused(t, r, w)
	}
}

func TestCodesOfCalls(t *testing.T) {
	codes := []int{impl.CallOk, impl.CallBad, impl.CallPassive, impl.CallRefused, impl.CallFull, impl.CallAgain}
	if !slices.Equal(codes, []int{0, 1, 2, 3, 4, 5}) || impl.RegionStep != 10 || impl.MaxBranches != 12 || impl.MaxEvents != 60 {
		t.Error(codes, impl.RegionStep, impl.MaxBranches, impl.MaxEvents)
	}
}

func TestBadRegionsAreBad(t *testing.T) {
	for _, w := range badWords() {
		if goodWordByWords(w) {
			t.Errorf("%v is to be bad", w)
		}
	}
	for _, r := range badRegions() {
		if goodRegionByWords(r) {
			t.Errorf("%v is to be bad", r)
		}
	}
}

func TestNewRegions(t *testing.T) {
	for id := range impl.RegionStep {
		r, ok := impl.NewRegion(id)
		if !ok || !sameRegions(r, impl.Region{Id: id}) {
			t.Fatalf("NewRegion %d: %v, %v", id, r, ok)
		}
		holdTold(t, r)
		holdEachCall(t, r)
		if active, _ := impl.IsActive(r); active != (id == 0) {
			t.Errorf("IsActive %v: %v", r, active)
		}
	}
	for _, id := range noRegions {
		if r, ok := impl.NewRegion(id); ok || !isZeroRegion(r) {
			t.Errorf("NewRegion %d: %v, %v", id, r, ok)
		}
	}
	holdTold(t, impl.Region{Tellings: impl.Tellings{Branches: []impl.Branch{}}})
}

func TestIdsAndVersionsOfRegions(t *testing.T) {
	a := signalsOf(0, "a")
	for id := range 10 {
		for _, version := range append(edgeVersions(), 0, 1, 999999, 1000000) {
			holdTold(t, regionOf(id, version))
			holdTold(t, regionOf(id, version, a))
			holdTold(t, regionOf(id, version, a, signalsOf(0, "b")))
		}
		for _, version := range noVersions {
			holdRegionIsBad(t, regionOf(id, version))
			holdRegionIsBad(t, regionOf(id, version, a))
		}
	}
	for _, id := range noRegions {
		for _, version := range []int{0, 3, 1000000} {
			holdRegionIsBad(t, regionOf(id, version, a))
		}
	}
}

func TestActiveAtEachVersion(t *testing.T) {
	for _, first := range []int{0, 40, 990, 99980, 999960} {
		for version := first; version <= min(first+40, 1000000); version++ {
			for id := range 10 {
				r := regionOf(id, version)
				if active, ok := impl.IsActive(r); !ok || active != (version%10 == id) {
					t.Fatalf("IsActive %v: %v, %v", r, active, ok)
				}
				holdLead(t, r)
			}
		}
	}
}

func TestBadRegionsAreRefused(t *testing.T) {
	for _, r := range badRegions() {
		holdRegionIsBad(t, r)
	}
}

// Words that are not good at regions that are, also where the region has all of their branches, and at regions that are not.
func TestBadWordsAreRefused(t *testing.T) {
	full := fan(signalsOf(3, "a"), 12)
	bad := badRegions()
	for i, w := range badWords() {
		for _, r := range []impl.Region{regionOf(0, 0), regionOf(3, 1000000), regionOf(3, 3, signalsOf(3, "a"), signalsOf(3, "b")), ledAt(0, full...), bad[(i*7+5)%len(bad)]} {
			holdHeardRefused(t, r, w)
		}
	}
}

// Regions of no tellings, of one history, and of as many as there may be; one more is too many.
func TestHowManyBranchesOfRegions(t *testing.T) {
	for _, first := range [][]impl.Event{nil, signalsOf(3, ""), signalsOf(3, "a b")} {
		for count := range impl.MaxBranches + 1 {
			for _, id := range []int{0, 4, 9} {
				r := ledAt(id, fan(first, count)...)
				holdTold(t, r)
				holdEachCall(t, r)
				r.Id = (id + 1) % 10
				holdTold(t, r)
				holdEachCall(t, r)
			}
		}
		for _, count := range []int{13, 14, 40} {
			holdRegionIsBad(t, ledAt(0, fan(first, count)...))
		}
	}
}

// The greatest Version of an event is that of the region, and one more, at each place of as many branches as there may be.
func TestVersionsOfEventsInRegions(t *testing.T) {
	for _, first := range [][]impl.Event{nil, signalsOf(3, "a b")} {
		for place := range 12 {
			l := fan(first, 12)
			l[place] = wentOn(l[place], 100, impl.EvTaskDone, "")
			for id := range 10 {
				holdRegionIsBad(t, regionOf(id, 99, l...))
				holdRegionIsBad(t, regionOf(id, 0, l...))
			}
			for _, version := range []int{100, 101, 110, 1000000} {
				holdTold(t, regionOf(0, version, l...))
				holdCalled(t, regionOf(0, version, l...), impl.EvSignal, "new")
			}
		}
	}
	for _, version := range []int{0, 1, 999999, 1000000} {
		l := historyOf(version, impl.EvStart, "")
		holdTold(t, regionOf(0, version, l))
		if version > 0 {
			holdRegionIsBad(t, regionOf(0, version-1, l))
		}
	}
	// Not just the last branch counts, nor the longest one.
	for _, l := range [][][]impl.Event{
		{historyOf(2, impl.EvStart, "", 9, impl.EvClose, ""), signalsOf(3, "a b c")}, {wentOnUpTo(signalsOf(2, "a"), 2, 60), historyOf(9, impl.EvStart, "")},
	} {
		holdTold(t, regionOf(9, 9, l...))
		holdRegionIsBad(t, regionOf(8, 8, l...))
	}
}

func TestNamedCallsThatAreTaken(t *testing.T) {
	start := historyOf(0, impl.EvStart, "")
	v0, v10 := wentOn(start, 0, impl.EvSignal, "z"), wentOn(start, 10, impl.EvSignal, "a")
	long := wentOnUpTo(v0, 0, 60)
	for _, c := range []struct {
		r    impl.Region
		kind int
		name string
		want [][]impl.Event
	}{
		// A first event, of any Version and name.
		{regionOf(0, 0), impl.EvStart, "", [][]impl.Event{start}}, {regionOf(0, 0), impl.EvStart, longestName, [][]impl.Event{historyOf(0, impl.EvStart, longestName)}},
		{regionOf(7, 17), impl.EvStart, "go", [][]impl.Event{historyOf(17, impl.EvStart, "go")}}, {regionOf(0, 1000000), impl.EvStart, "", [][]impl.Event{historyOf(1000000, impl.EvStart, "")}},
		// One behind a history, each kind; of the Version of the last event, and of a greater one.
		{regionOf(0, 0, start), impl.EvSignal, "b", [][]impl.Event{wentOn(start, 0, impl.EvSignal, "b")}}, {regionOf(1, 11, start), impl.EvSignal, "b", [][]impl.Event{wentOn(start, 11, impl.EvSignal, "b")}},
		{regionOf(1, 11, start), impl.EvTaskDone, "b", [][]impl.Event{wentOn(start, 11, impl.EvTaskDone, "b")}}, {regionOf(1, 11, start), impl.EvTimer, "b", [][]impl.Event{wentOn(start, 11, impl.EvTimer, "b")}},
		{regionOf(1, 11, start), impl.EvCancel, "b", [][]impl.Event{wentOn(start, 11, impl.EvCancel, "b")}}, {regionOf(1, 11, start), impl.EvClose, "b", [][]impl.Event{wentOn(start, 11, impl.EvClose, "b")}},
		// Behind the current one among several: of the greatest Version, the longest, the greatest; the others stay.
		{regionOf(0, 10, v0, v10), impl.EvTaskDone, "", [][]impl.Event{v0, wentOn(v10, 10, impl.EvTaskDone, "")}},
		{regionOf(2, 22, wentOnUpTo(v0, 12, 4), wentOnUpTo(v10, 12, 3)), impl.EvTaskDone, "x", [][]impl.Event{wentOn(wentOnUpTo(v0, 12, 4), 22, impl.EvTaskDone, "x"), wentOnUpTo(v10, 12, 3)}},
		{regionOf(2, 22, v10, wentOn(start, 10, impl.EvSignal, "b"), wentOn(start, 10, impl.EvSignal, "c")), impl.EvSignal, "a", [][]impl.Event{v10, wentOn(start, 10, impl.EvSignal, "b"), wentOn(wentOn(start, 10, impl.EvSignal, "c"), 22, impl.EvSignal, "a")}},
		// A signal's name is in another history only, or that of another kind of event; another kind has the name of a signal.
		{regionOf(0, 10, v0, v10), impl.EvSignal, "z", [][]impl.Event{v0, wentOn(v10, 10, impl.EvSignal, "z")}},
		{regionOf(0, 10, wentOn(v10, 10, impl.EvTaskDone, "t")), impl.EvSignal, "t", [][]impl.Event{wentOn(wentOn(v10, 10, impl.EvTaskDone, "t"), 10, impl.EvSignal, "t")}},
		{regionOf(0, 10, v10), impl.EvTaskDone, "a", [][]impl.Event{wentOn(v10, 10, impl.EvTaskDone, "a")}}, {regionOf(0, 10, v10), impl.EvTimer, "a", [][]impl.Event{wentOn(v10, 10, impl.EvTimer, "a")}},
		{regionOf(0, 10, wentOn(v10, 10, impl.EvTimer, "t")), impl.EvTimer, "t", [][]impl.Event{wentOn(wentOn(v10, 10, impl.EvTimer, "t"), 10, impl.EvTimer, "t")}},
		{regionOf(0, 10, historyOf(0, impl.EvStart, "a")), impl.EvSignal, "a", [][]impl.Event{historyOf(0, impl.EvStart, "a", 10, impl.EvSignal, "a")}},
		{regionOf(0, 10, v10), impl.EvSignal, "", [][]impl.Event{wentOn(v10, 10, impl.EvSignal, "")}}, {regionOf(0, 10, v10), impl.EvSignal, "aa", [][]impl.Event{wentOn(v10, 10, impl.EvSignal, "aa")}},
		// There is room for one more; another history has as many as may be, or is closed.
		{regionOf(0, 10, wentOnUpTo(v10, 10, 59)), impl.EvClose, "", [][]impl.Event{wentOn(wentOnUpTo(v10, 10, 59), 10, impl.EvClose, "")}},
		{regionOf(0, 10, long, v10), impl.EvSignal, "b", [][]impl.Event{long, wentOn(v10, 10, impl.EvSignal, "b")}},
		{regionOf(0, 10, wentOn(v0, 0, impl.EvClose, ""), v10), impl.EvSignal, "b", [][]impl.Event{wentOn(v0, 0, impl.EvClose, ""), wentOn(v10, 10, impl.EvSignal, "b")}},
	} {
		after, code := holdCalled(t, c.r, c.kind, c.name)
		if code != impl.CallOk || !sameRegions(after, regionOf(c.r.Id, c.r.Version, c.want...)) {
			t.Errorf("TakeCall %v, %d, %q: %v, %d", c.r, c.kind, c.name, after, code)
		}
	}
}

func TestNamedCallsThatAreNotTaken(t *testing.T) {
	start := historyOf(0, impl.EvStart, "")
	open := wentOn(wentOn(start, 0, impl.EvSignal, "a"), 10, impl.EvSignal, "b")
	closed := wentOn(open, 10, impl.EvClose, "")
	full := wentOnUpTo(open, 10, 60)
	fullClosed := wentOn(wentOnUpTo(open, 10, 59), 10, impl.EvClose, "")
	signals := startedWith(impl.EvSignal, namesUpTo(30))
	timers := startedWith(impl.EvTimer, namesUpTo(30))
	other := historyOf(0, impl.EvStart, "other")
	for _, c := range []struct {
		r    impl.Region
		kind int
		name string
		code int
	}{
		// No such kind, no such name; whoever leads, and whatever else is wrong.
		{regionOf(0, 10, open), 0, "", 1}, {regionOf(0, 10, open), 7, "new", 1}, {regionOf(0, 10, open), 2, "A", 1}, {regionOf(0, 10, open), 2, longestName + "a", 1}, {regionOf(0, 10, open), 0, "A", 1},
		{regionOf(1, 10, open), 0, "", 1}, {regionOf(1, 10, open), 2, "A", 1}, {regionOf(0, 10, closed), 7, "", 1}, {regionOf(0, 10, full), 3, "A", 1}, {regionOf(1, 10, full), 3, " ", 1}, {regionOf(0, 0), 7, "", 1}, {regionOf(3, 0), -1, "", 1},
		// It does not lead, whether the call is new, there already, one that may not come, or one too many.
		{regionOf(1, 10, open), 2, "new", 2}, {regionOf(1, 10, open), 2, "a", 2}, {regionOf(1, 10, open), 1, "", 2}, {regionOf(1, 10, closed), 3, "", 2}, {regionOf(1, 10, full), 3, "", 2}, {regionOf(1, 10, full), 2, "a", 2}, {regionOf(1, 10, fullClosed), 3, "", 2},
		{regionOf(9, 0), 1, "", 2}, {regionOf(0, 11, open), 2, "new", 2}, {regionOf(0, 1000000-1, open), 2, "new", 2},
		// A signal of a name that came, first or last; also where it is closed, full, or has as many signals as may be.
		{regionOf(0, 10, open), 2, "a", 5}, {regionOf(0, 10, open), 2, "b", 5}, {regionOf(0, 20, open), 2, "a", 5}, {regionOf(0, 10, closed), 2, "a", 5}, {regionOf(0, 10, full), 2, "b", 5}, {regionOf(0, 10, fullClosed), 2, "b", 5},
		{regionOf(7, 7, signals), 2, nameAt(0), 5}, {regionOf(7, 7, signals), 2, nameAt(29), 5}, {regionOf(7, 7, wentOnUpTo(signals, 7, 60)), 2, nameAt(7), 5}, {regionOf(0, 10, open, other), 2, "a", 5},
		// Events that may not come, also where it is full.
		{regionOf(0, 0), 2, "a", 3}, {regionOf(0, 0), 3, "", 3}, {regionOf(0, 0), 4, "", 3}, {regionOf(0, 0), 5, "", 3}, {regionOf(0, 0), 6, "", 3},
		{regionOf(0, 10, open), 1, "", 3}, {regionOf(0, 10, open), 1, "a", 3}, {regionOf(0, 10, wentOn(open, 10, 5, "x")), 5, "y", 3}, {regionOf(7, 7, signals), 2, nameAt(30), 3}, {regionOf(7, 7, timers), 4, nameAt(30), 3},
		{regionOf(0, 10, closed), 1, "", 3}, {regionOf(0, 10, closed), 2, "new", 3}, {regionOf(0, 10, closed), 3, "", 3}, {regionOf(0, 10, closed), 4, "", 3}, {regionOf(0, 10, closed), 5, "", 3}, {regionOf(0, 10, closed), 6, "", 3},
		{regionOf(0, 10, full), 1, "", 3}, {regionOf(0, 10, fullClosed), 3, "", 3}, {regionOf(0, 10, fullClosed), 2, "new", 3}, {regionOf(0, 10, wentOnUpTo(wentOn(open, 10, 5, ""), 10, 60)), 5, "", 3}, {regionOf(7, 7, wentOnUpTo(signals, 7, 60)), 2, nameAt(30), 3},
		// The current one is closed, though another one, that is longer, is not.
		{regionOf(1, 11, wentOnUpTo(start, 10, 9), wentOn(other, 11, impl.EvClose, "")), 3, "", 3}, {regionOf(1, 11, wentOn(start, 11, impl.EvClose, ""), wentOnUpTo(other, 10, 9)), 2, "new", 3},
		// One event too many, of each kind that may come; also where another history has room.
		{regionOf(0, 10, full), 2, "new", 4}, {regionOf(0, 10, full), 3, "a", 4}, {regionOf(0, 10, full), 4, "a", 4}, {regionOf(0, 10, full), 5, "", 4}, {regionOf(0, 10, full), 6, "", 4}, {regionOf(0, 990, full, other), 2, "new", 4},
	} {
		after, code := holdCalled(t, c.r, c.kind, c.name)
		if code != c.code || !sameRegions(after, c.r) {
			t.Errorf("TakeCall %v, %d, %q: %v, %d, not %d", c.r, c.kind, c.name, after, code, c.code)
		}
	}
	for _, r := range []impl.Region{regionOf(0, 10, open), regionOf(1, 10, open), regionOf(0, 0)} {
		for _, kind := range noKinds {
			if _, code := holdCalled(t, r, kind, "new"); code != impl.CallBad {
				t.Errorf("TakeCall %v, %d: %d", r, kind, code)
			}
		}
		for _, name := range noNames {
			for kind := 1; kind <= 6; kind++ {
				if _, code := holdCalled(t, r, kind, name); code != impl.CallBad {
					t.Errorf("TakeCall %v, %d, %q: %d", r, kind, name, code)
				}
			}
		}
	}
}

// A run from its first event to one too many, at one region that leads all the time, or takes the lead again.
func TestCallsUpToTheLimit(t *testing.T) {
	for _, again := range []int{1000, 1, 7} {
		r, _ := impl.NewRegion(0)
		for i := range 60 {
			kind := impl.EvTaskDone
			if i == 0 {
				kind = impl.EvStart
			}
			var code int
			if r, code = holdCalled(t, r, kind, "n"+strconv.Itoa(i)); code != impl.CallOk {
				t.Fatalf("call %d: %d", i, code)
			}
			if i%again == again-1 {
				r, _ = impl.TakeLead(r)
			}
		}
		current, _ := impl.CurrentOf(r.Tellings)
		if len(r.Tellings.Branches) != 1 || len(current) != 60 || current[59].Version != (59/again)*10 {
			t.Errorf("%v", r)
		}
		if after, code := holdCalled(t, r, impl.EvTaskDone, ""); code != impl.CallFull || !sameRegions(after, r) {
			t.Errorf("%v, %d", after, code)
		}
		holdTold(t, r)
	}
}

// With as many branches as may be the current one goes on, and none is too many.
func TestCallsAtAllBranches(t *testing.T) {
	for _, first := range [][]impl.Event{nil, signalsOf(3, ""), signalsOf(3, "a b")} {
		for place := range 12 {
			l := fan(first, 12)
			l[place] = wentOn(l[place], 100, impl.EvTaskDone, "")
			want := slices.Clone(l)
			want[place] = wentOn(l[place], 200, impl.EvSignal, "new")
			after, code := holdCalled(t, regionOf(0, 200, l...), impl.EvSignal, "new")
			if code != impl.CallOk || !sameRegions(after, regionOf(0, 200, want...)) {
				t.Fatalf("TakeCall of %v: %v, %d", l, after, code)
			}
		}
	}
	for _, x := range fullTellings() {
		r := ledAt(3, rowsIn(x)...)
		holdTold(t, r)
		if _, code := holdCalled(t, r, impl.EvSignal, "new"); code != impl.CallFull {
			t.Errorf("%d", code)
		}
	}
}

func TestNamedLeads(t *testing.T) {
	a := signalsOf(0, "a")
	for _, c := range []struct {
		id, version, want int
	}{
		// Active already, behind another one, and of the same ten or the next.
		{0, 0, 10}, {3, 3, 13}, {9, 9, 19}, {3, 13, 23}, {0, 1, 10}, {1, 0, 1}, {9, 0, 9}, {3, 14, 23}, {3, 12, 13}, {0, 999990, 1000000}, {0, 999999, 1000000}, {9, 999998, 999999}, {1, 999990, 999991},
		// None is left.
		{0, 1000000, -1}, {1, 1000000, -1}, {9, 1000000, -1}, {9, 999999, -1}, {1, 999991, -1}, {1, 999999, -1}, {5, 999995, -1}, {4, 999995, -1}, {6, 999995, 999996},
	} {
		for _, r := range []impl.Region{regionOf(c.id, c.version), regionOf(c.id, c.version, a), regionOf(c.id, c.version, a, signalsOf(0, "b"))} {
			holdLead(t, r)
			after, ok := impl.TakeLead(r)
			if ok != (c.want >= 0) || !ok && !isZeroRegion(after) || ok && !sameRegions(after, regionOf(c.id, c.want, rowsIn(r.Tellings)...)) {
				t.Errorf("TakeLead %v: %v, %v", r, after, ok)
			}
		}
	}
}

func TestNamedHeard(t *testing.T) {
	a, b, c := signalsOf(3, "a"), signalsOf(3, "b"), signalsOf(3, "c")
	ab := signalsOf(3, "a b")
	for _, one := range []struct {
		r    impl.Region
		w    impl.Word
		want impl.Region
	}{
		{regionOf(0, 0), wordOf(0), regionOf(0, 0)}, {regionOf(0, 0), wordOf(7), regionOf(0, 7)}, {regionOf(0, 0), wordOf(1000000), regionOf(0, 1000000)}, {regionOf(9, 1000000, a), wordOf(0), regionOf(9, 1000000, a)},
		// Nothing new: the same, a lower Version, beginnings of what is there.
		{regionOf(3, 5, a, b), wordOf(5, a, b), regionOf(3, 5, a, b)}, {regionOf(3, 5, a, b), wordOf(3, a), regionOf(3, 5, a, b)}, {regionOf(3, 5, ab), wordOf(4, a), regionOf(3, 5, ab)}, {regionOf(3, 5, ab, b), wordOf(3, ab[:1]), regionOf(3, 5, ab, b)},
		{regionOf(3, 5, a, b), wordOf(0), regionOf(3, 5, a, b)},
		// A lower Version that tells more; a greater one that tells nothing more, or less.
		{regionOf(3, 50, a), wordOf(3, b), regionOf(3, 50, a, b)}, {regionOf(3, 50, a), wordOf(3, ab), regionOf(3, 50, ab)}, {regionOf(3, 5, a), wordOf(6, a), regionOf(3, 6, a)}, {regionOf(3, 5, ab), wordOf(99, a), regionOf(3, 99, ab)},
		{regionOf(3, 5, a), wordOf(99), regionOf(3, 99, a)}, {regionOf(3, 3, a), wordOf(4, historyOf(4, impl.EvStart, "")), regionOf(3, 4, a, historyOf(4, impl.EvStart, ""))},
		// Both tell something, and something in common.
		{regionOf(2, 5, a, b), wordOf(4, b, c), regionOf(2, 5, a, b, c)}, {regionOf(2, 4, a, c), wordOf(5, b), regionOf(2, 5, a, b, c)}, {regionOf(2, 4, a, b), wordOf(5, signalsOf(3, "b c")), regionOf(2, 5, a, signalsOf(3, "b c"))},
		// Nothing is there yet.
		{regionOf(0, 0), wordOf(3, a), regionOf(0, 3, a)}, {regionOf(0, 9), wordOf(3, a, b), regionOf(0, 9, a, b)},
	} {
		after, ok := holdHeard(t, one.r, one.w)
		if !ok || !sameRegions(after, one.want) {
			t.Errorf("HearWord %v, %v: %v, %v", one.r, one.w, after, ok)
		}
		holdTold(t, after)
	}
	// Who leads and hears of a greater Version leads no more; who hears of one that tells its own Id leads.
	r, _ := impl.HearWord(regionOf(0, 10, a), wordOf(11))
	if _, code := holdCalled(t, r, impl.EvSignal, "new"); code != impl.CallPassive {
		t.Errorf("%v: %d", r, code)
	}
	r, _ = impl.HearWord(regionOf(0, 11, a), wordOf(20))
	if _, code := holdCalled(t, r, impl.EvSignal, "new"); code != impl.CallOk {
		t.Errorf("%v: %d", r, code)
	}
}

// Words whose tellings make MaxBranches with those of the region, and one more.
func TestHeardUpToTheLimit(t *testing.T) {
	fits, over := 0, 0
	for _, first := range [][]impl.Event{nil, signalsOf(3, "a")} {
		all := fan(first, 14)
		for from := range 13 {
			for to := from; to <= min(14, from+12); to++ {
				for _, count := range []int{0, 1, 11, 12} {
					_, ok := holdHeard(t, ledAt(0, all[:count]...), wordOf(900, all[from:to]...))
					if ok {
						fits++
					} else {
						over++
					}
					if _, also := holdHeard(t, ledAt(0, all[from:to]...), wordOf(900, all[:count]...)); also != ok {
						t.Fatalf("%d, %d..%d: %v, %v", count, from, to, ok, also)
					}
				}
			}
		}
		// All of twelve are told longer by the word; then one of them has another end, too.
		var long [][]impl.Event
		for _, l := range all[:12] {
			long = append(long, wentOnUpTo(l, 800, 60))
		}
		if after, ok := holdHeard(t, ledAt(0, all[:12]...), wordOf(900, long...)); !ok || !sameRegions(after, regionOf(0, 900, long...)) {
			t.Errorf("%v, %v", after, ok)
		}
		other := slices.Clone(long)
		other[5] = wentOn(all[5], 700, impl.EvClose, "")
		if _, ok := holdHeard(t, ledAt(0, long...), wordOf(900, other...)); ok {
			t.Error("too many are heard")
		}
	}
	if fits < 200 || over < 50 {
		t.Error(fits, over)
	}
}

func TestNamedReapplies(t *testing.T) {
	start := historyOf(0, impl.EvStart, "")
	current := wentOn(wentOn(start, 20, impl.EvSignal, "k"), 20, impl.EvTaskDone, "t")
	lost := func(version int, names ...string) []impl.Event {
		return signalledOn(start, version, names...)
	}
	for _, c := range []struct {
		r     impl.Region
		count int
		want  [][]impl.Event
	}{
		// Nothing is lost.
		{regionOf(0, 0), 0, nil}, {regionOf(0, 20, current), 0, [][]impl.Event{current}}, {regionOf(0, 20, lost(0, "k"), current), 0, [][]impl.Event{lost(0, "k"), current}},
		{regionOf(0, 20, wentOn(start, 0, impl.EvTaskDone, "x"), current), 0, [][]impl.Event{wentOn(start, 0, impl.EvTaskDone, "x"), current}},
		// One is lost, also of no bytes, of the name of another kind of event, and in several branches.
		{regionOf(0, 20, lost(0, "a"), current), 1, [][]impl.Event{lost(0, "a"), signalledOn(current, 20, "a")}}, {regionOf(1, 21, lost(0, "a"), current), 1, [][]impl.Event{lost(0, "a"), signalledOn(current, 21, "a")}},
		{regionOf(0, 20, lost(0, ""), current), 1, [][]impl.Event{lost(0, ""), signalledOn(current, 20, "")}}, {regionOf(0, 20, lost(0, "k", "t"), current), 1, [][]impl.Event{lost(0, "k", "t"), signalledOn(current, 20, "t")}},
		{regionOf(0, 30, lost(0, "a"), lost(5, "a"), current), 1, [][]impl.Event{lost(0, "a"), lost(5, "a"), signalledOn(current, 30, "a")}},
		// Several, in the order of their names, by bytes.
		{regionOf(0, 20, lost(0, "c", "a"), lost(5, "b", "k"), current), 3, [][]impl.Event{lost(0, "c", "a"), lost(5, "b", "k"), signalledOn(current, 20, "a", "b", "c")}},
		{regionOf(0, 20, lost(0, "z", "10"), lost(5, "9", "zz"), current), 4, [][]impl.Event{lost(0, "z", "10"), lost(5, "9", "zz"), signalledOn(current, 20, "10", "9", "z", "zz")}},
		// The current one is the shorter one, and is the first one.
		{regionOf(3, 13, lost(0, "e", "c"), lost(3, "b")), 2, [][]impl.Event{lost(0, "e", "c"), signalledOn(lost(3, "b"), 13, "c", "e")}},
		{regionOf(9, 9, wentOn(lost(0, "c"), 9, impl.EvTaskDone, ""), lost(3, "b", "d")), 2, [][]impl.Event{signalledOn(wentOn(lost(0, "c"), 9, impl.EvTaskDone, ""), 9, "b", "d"), lost(3, "b", "d")}},
		// None of them may come, for the current one is closed.
		{regionOf(0, 20, lost(0, "c", "a"), wentOn(current, 20, impl.EvClose, "")), 0, [][]impl.Event{lost(0, "c", "a"), wentOn(current, 20, impl.EvClose, "")}},
		// It is cancelled, or the other one is closed: they come.
		{regionOf(0, 20, lost(0, "c", "a"), wentOn(current, 20, impl.EvCancel, "")), 2, [][]impl.Event{lost(0, "c", "a"), signalledOn(wentOn(current, 20, impl.EvCancel, ""), 20, "a", "c")}},
		{regionOf(0, 20, wentOn(lost(0, "a"), 0, impl.EvClose, ""), current), 1, [][]impl.Event{wentOn(lost(0, "a"), 0, impl.EvClose, ""), signalledOn(current, 20, "a")}},
		// It gets full on the way, or is full.
		{regionOf(0, 20, lost(0, "c", "a", "b"), wentOnUpTo(current, 20, 58)), 2, [][]impl.Event{lost(0, "c", "a", "b"), signalledOn(wentOnUpTo(current, 20, 58), 20, "a", "b")}},
		{regionOf(0, 20, lost(0, "c", "a", "b"), wentOnUpTo(current, 20, 57)), 3, [][]impl.Event{lost(0, "c", "a", "b"), signalledOn(wentOnUpTo(current, 20, 57), 20, "a", "b", "c")}},
		{regionOf(0, 20, lost(0, "c", "a", "b"), wentOnUpTo(current, 20, 60)), 0, [][]impl.Event{lost(0, "c", "a", "b"), wentOnUpTo(current, 20, 60)}},
		// It has as many signals as may be, or comes to them on the way.
		{regionOf(0, 20, lost(0, "c", "a", "b"), startedWithout(20, 30)), 0, [][]impl.Event{lost(0, "c", "a", "b"), startedWithout(20, 30)}},
		{regionOf(0, 20, lost(0, "c", "a", "b"), startedWithout(20, 28)), 2, [][]impl.Event{lost(0, "c", "a", "b"), signalledOn(startedWithout(20, 28), 20, "a", "b")}},
	} {
		after, count := holdReapply(t, c.r)
		if count != c.count || !sameRegions(after, regionOf(c.r.Id, c.r.Version, c.want...)) {
			t.Errorf("Reapply %v: %v, %d, not %d", c.r, after, count, c.count)
		}
		holdTold(t, after)
		// Who does not lead calls for nothing.
		passive := c.r
		passive.Id = (c.r.Id + 1) % 10
		holdReapply(t, passive)
		if got, count, ok := impl.Reapply(passive); ok || count != 0 || !isZeroRegion(got) {
			t.Errorf("Reapply %v: %v, %d, %v", passive, got, count, ok)
		}
	}
}

// startedWithout is a history with so many signals, none of which is named by one letter.
func startedWithout(version int, count int) []impl.Event {
	l := historyOf(0, impl.EvStart, "")
	for i := range count {
		l = wentOn(l, version, impl.EvSignal, "s"+strconv.Itoa(i))
	}
	return l
}

// As many signals as can be are lost: the least of them come, up to the limit of signals and up to that of events.
func TestMostReapplies(t *testing.T) {
	l := rowsOfSignals(11)
	lost := sortedNames(signalNames(slices.Concat(l...)))
	for _, length := range []int{1, 2, 30, 31, 35, 59, 60} {
		current := wentOnUpTo(historyOf(11, impl.EvStart, ""), 11, length)
		r := regionOf(1, 11, slices.Concat(l, [][]impl.Event{current})...)
		after, count := holdReapply(t, r)
		want := min(30, 60-length)
		s, ok := impl.StateOf(after)
		if count != want || !ok || !slices.Equal(s.Signals, lost[:want]) || s.Next != length+want+1 {
			t.Errorf("%d events: %d, %q", length, count, s.Signals)
		}
	}
}

func TestNamedStates(t *testing.T) {
	for id := range 10 {
		for _, version := range []int{0, 5, 1000000} {
			if s, ok := impl.StateOf(regionOf(id, version)); !ok || !sameStates(s, impl.NewState()) {
				t.Errorf("StateOf %d, %d: %+v, %v", id, version, s, ok)
			}
		}
	}
	start := historyOf(0, impl.EvStart, "")
	v0 := wentOn(wentOn(start, 0, impl.EvSignal, "z"), 0, impl.EvClose, "")
	v10 := wentOn(wentOn(wentOn(wentOn(start, 10, impl.EvSignal, "b"), 10, impl.EvSignal, "a"), 10, impl.EvTimer, "t"), 10, impl.EvTaskDone, "")
	open := impl.State{Status: impl.RunOpen, Next: 6, Done: 1, Signals: []string{"b", "a"}, Timers: []string{"t"}}
	for _, c := range []struct {
		l    [][]impl.Event
		want impl.State
	}{
		{[][]impl.Event{start}, impl.State{Status: impl.RunOpen, Next: 2}}, {[][]impl.Event{v0}, impl.State{Status: impl.RunClosed, Next: 4, Signals: []string{"z"}}},
		{[][]impl.Event{v10}, open}, {[][]impl.Event{v0, v10}, open},
		{[][]impl.Event{v10, wentOn(start, 11, impl.EvCancel, "")}, impl.State{Status: impl.RunOpen, Next: 3, Cancel: true}},
	} {
		for _, id := range []int{0, 1} {
			if s, ok := impl.StateOf(ledAt(id, c.l...)); !ok || !sameStates(s, c.want) {
				t.Errorf("StateOf %v: %+v, %v", c.l, s, ok)
			}
			if s, ok := impl.StateOf(regionOf(id, 33, c.l...)); !ok || !sameStates(s, c.want) {
				t.Errorf("StateOf %v: %+v, %v", c.l, s, ok)
			}
		}
	}
}

// Each region of few tellings, and each call and each word of few.
func TestEveryFewRegions(t *testing.T) {
	all := everyTellings(everyHistory(3, []int{0, 1}, []int{impl.EvStart, impl.EvSignal, impl.EvClose}, []string{"a"}), 2)
	all = append(all, everyTellings(everyHistory(2, []int{0, 1}, []int{impl.EvStart, impl.EvSignal}, []string{"", "a"}), 3)...)
	if len(all) < 200 {
		t.Fatal(len(all))
	}
	for i, x := range all {
		for version := newestByWords(x); version <= 2; version++ {
			for id := range 3 {
				r := impl.Region{Id: id, Version: version, Tellings: x}
				holdTold(t, r)
				holdEachCall(t, r)
				for j := i % 31; j < len(all); j += 31 {
					holdHeard(t, r, impl.Word{Version: max(1, newestByWords(all[j])), Tellings: all[j]})
				}
			}
		}
	}
}

// Promise 16: who does not lead takes no call, whatever is called for, and stays as it was.
func TestNoCallOfWhoDoesNotLead(t *testing.T) {
	passive := 0
	for seed := range 400 {
		next := numbersFrom(uint64(101000 + seed))
		r := someRegion(1+next(12), oneOfNumbers(next, 4, 8, 60), next)
		for id := range 10 {
			r.Id = id
			for range 3 {
				kind, name := someCall(r.Tellings, next)
				after, code := holdCalled(t, r, kind, name)
				if id != r.Version%10 && (code == impl.CallOk || !sameRegions(after, r)) {
					t.Fatalf("TakeCall %v, %d, %q: %v, %d", r, kind, name, after, code)
				}
				if code == impl.CallPassive {
					passive++
				}
			}
		}
	}
	if passive < 5000 {
		t.Error(passive)
	}
}

func TestManyRegions(t *testing.T) {
	codes := map[int]int{}
	for seed := range 500 {
		next := numbersFrom(uint64(101500 + seed))
		r := someRegion(1+next(16), oneOfNumbers(next, 4, 8, 20, 60), next)
		if seed%5 == 0 {
			r = goneOn(r, oneOfNumbers(next, 55, 59, 60))
		}
		holdTold(t, r)
		for range 20 {
			kind, name := someCall(r.Tellings, next)
			after, code := holdCalled(t, r, kind, name)
			codes[code]++
			if next(3) == 0 {
				r = after
			}
		}
	}
	for code := range 6 {
		if codes[code] < 50 {
			t.Errorf("%v", codes)
		}
	}
}

// Promise 16: what is heard twice is heard once; words are heard in any order, as often as one likes.
func TestManyWordsHeard(t *testing.T) {
	whole := 0
	for seed := range 150 {
		next := numbersFrom(uint64(102000 + seed))
		histories := someHistories(3+next(12), oneOfNumbers(next, 4, 8, 20), next)
		var l []impl.Word
		for range 2 + next(4) {
			var rows [][]impl.Event
			for range next(5) {
				rows = append(rows, histories[next(len(histories))])
			}
			w := impl.Word{Tellings: togetherByWords(rows)}
			w.Version = newestByWords(w.Tellings) + next(30)
			l = append(l, w)
		}
		r := impl.Region{Id: next(10), Version: next(20)}
		want, fits := r, true
		for _, w := range l {
			var ok bool
			want, ok = hearByWords(want, w)
			fits = fits && ok
		}
		if !fits {
			continue
		}
		whole++
		for range 5 {
			heard := r
			for _, number := range slices.Concat(someOrder(len(l), next), someOrder(len(l), next)) {
				heard, _ = holdHeard(t, heard, l[number])
			}
			if !sameRegions(heard, want) {
				t.Fatalf("%v of %v: %v, not %v", r, l, heard, want)
			}
		}
	}
	if whole < 100 {
		t.Error(whole)
	}
}

func TestManyTwoOfRegions(t *testing.T) {
	fits, over := 0, 0
	for seed := range 300 {
		next := numbersFrom(uint64(102500 + seed))
		histories := someHistories(4+next(32), oneOfNumbers(next, 3, 4, 8, 20), next)
		count := next(len(histories))
		a, b := togetherByWords(histories[:count]), togetherByWords(histories[oneOfNumbers(next, count, count/2):])
		if len(a.Branches) > 12 || len(b.Branches) > 12 {
			continue
		}
		r := impl.Region{Id: next(10), Version: newestByWords(a) + next(20), Tellings: a}
		if _, ok := holdHeard(t, r, impl.Word{Version: newestByWords(b) + next(20), Tellings: b}); ok {
			fits++
		} else {
			over++
		}
	}
	if fits < 100 || over < 20 {
		t.Error(fits, over)
	}
}

// Some regions that call, lead, tell and hear, over a line that loses, doubles and turns about.
func TestManyRegionsTogether(t *testing.T) {
	for seed := range 40 {
		next := numbersFrom(uint64(103000 + seed))
		ids := someOrder(10, next)[:3]
		var all []impl.Region
		for _, id := range ids {
			r, _ := impl.NewRegion(id)
			all = append(all, r)
		}
		var line []impl.Word
		for range 60 {
			at := next(len(all))
			r := all[at]
			switch next(8) {
			case 0:
				if after, ok := impl.TakeLead(r); ok {
					holdLead(t, r)
					r = after
				}
			case 1, 2:
				word, ok := impl.WordOf(r)
				if !ok || !sameWords(word, wordByWords(r)) {
					t.Fatalf("WordOf %v: %v, %v", r, word, ok)
				}
				line = append(line, word)
			case 3, 4:
				if len(line) > 0 {
					r, _ = holdHeard(t, r, line[next(len(line))])
				}
			case 5:
				r, _ = holdReapply(t, r)
			default:
				kind, name := someCall(r.Tellings, next)
				if len(r.Tellings.Branches) == 0 {
					kind = impl.EvStart
				}
				r, _ = holdCalled(t, r, kind, name)
			}
			all[at] = r
		}
		for _, r := range all {
			holdTold(t, r)
			holdOwnEvents(t, r, ids)
		}
	}
}

// holdOwnEvents holds that each event's Version tells a region that was there.
func holdOwnEvents(t *testing.T, r impl.Region, ids []int) {
	t.Helper()
	for _, b := range r.Tellings.Branches {
		for _, e := range b.Events {
			if led, ok := impl.RegionOf(e.Version); !ok || !slices.Contains(ids, led) {
				t.Fatalf("%v: %v came from none of %v", r, e, ids)
			}
		}
	}
}

// One thing in a good region is changed: it is good just where the words say so.
func TestRegionsThatAreChanged(t *testing.T) {
	good, bad := 0, 0
	for seed := range 400 {
		next := numbersFrom(uint64(103500 + seed))
		r := copyRegion(someRegion(1+next(14), 8, next))
		place := next(len(r.Tellings.Branches))
		events := r.Tellings.Branches[place].Events
		e := &events[next(len(events))]
		switch next(6) {
		case 0:
			e.Version += oneOfNumbers(next, -1, 1, 10)
		case 1:
			e.Name = []string{"", "a", "A"}[next(3)]
		case 2:
			r.Version += oneOfNumbers(next, -1, -10, 1, 10)
		case 3:
			r.Id += oneOfNumbers(next, -1, 1, -10, 10)
		case 4:
			r.Tellings.Branches[place].Events = events[:next(len(events))]
		default:
			r.Tellings.Branches = append(r.Tellings.Branches, impl.Branch{Events: someHistory(events, 8, next)})
		}
		if goodRegionByWords(r) {
			holdTold(t, r)
			holdEachCall(t, r)
			good++
		} else {
			holdRegionIsBad(t, r)
			bad++
		}
	}
	if good < 50 || bad < 100 {
		t.Error(good, bad)
	}
}

// Many who ask at once get what one gets; the calls of one are not counted with those of another one.
func TestRegionsAskedForAtOnce(t *testing.T) {
	var group sync.WaitGroup
	for seed := range 8 {
		r := impl.Region{}
		next := numbersFrom(uint64(104000 + seed))
		for len(lostByWords(r.Tellings)) < 2+seed%3 {
			r = someRegion(8, 12, next)
		}
		r.Id = regionByWords(r.Version)
		want, codes := reapplyByWords(r)
		taken := len(codes) - len(lostByWords(want.Tellings))
		group.Go(func() {
			for range 30 {
				if got, count, ok := impl.Reapply(r); !ok || count != taken || !sameRegions(got, want) {
					t.Errorf("Reapply %v: %v, %d, %v", r, got, count, ok)
				}
			}
		})
	}
	group.Wait()
}
