package tests

import (
	"math"
	"slices"
	"sync"
	"testing"

	"loop.example/g00269/impl"
)

// noTellings are rows of events that no branch has, each for one reason.
func noTellings() [][]impl.Event {
	good := historyOf(5, impl.EvStart, "", 5, impl.EvSignal, "a", 6, impl.EvTaskDone, "")
	l := [][]impl.Event{
		nil, {}, wentOnUpTo(good, 6, 61), startedWith(impl.EvSignal, namesUpTo(31)), startedWith(impl.EvTimer, namesUpTo(31)),
		// What may not come.
		historyOf(5, impl.EvSignal, "a"), historyOf(5, impl.EvTaskDone, ""), historyOf(5, impl.EvClose, ""), historyOf(5, impl.EvStart, "", 5, impl.EvStart, ""),
		wentOn(good, 6, impl.EvSignal, "a"), wentOn(wentOn(good, 6, impl.EvClose, ""), 6, impl.EvTaskDone, ""), wentOn(wentOn(good, 6, impl.EvCancel, ""), 7, impl.EvCancel, "b"),
		// Versions that fall.
		wentOn(good, 5, impl.EvTaskDone, ""), wentOn(good, 0, impl.EvTaskDone, ""), historyOf(5, impl.EvStart, "", 4, impl.EvSignal, "a"),
	}
	// Ids that do not go from 1 on, one by one.
	for i := range good {
		for _, id := range []int{0, -1, i, i + 2, 1000, math.MinInt, math.MaxInt} {
			other := slices.Clone(good)
			other[i].Id = id
			l = append(l, other)
		}
	}
	for _, e := range badEvents() {
		l = append(l, append(slices.Clone(good[:2]), e))
	}
	return l
}

// badTellings are not good, each for one reason.
func badTellings() []impl.Tellings {
	a, b, c := signalsOf(3, "a"), signalsOf(3, "b"), signalsOf(3, "c")
	bad := []impl.Tellings{
		tellingsOf(fan(signalsOf(3, "a"), 13)...), tellingsOf(fan(nil, 13)...), tellingsOf(fan(nil, 40)...),
		// The same ones, and the wrong way about.
		tellingsOf(a, a), tellingsOf(a, b, b), tellingsOf(a, a, b), tellingsOf(b, a), tellingsOf(a, c, b), tellingsOf(b, c, a), tellingsOf(c, b, a), tellingsOf(a, b, a),
		// One that is the beginning of another one, next to it or not, ahead of it or behind it.
		tellingsOf(a[:1], a), tellingsOf(a, a[:1]), tellingsOf(a[:1], a, b), tellingsOf(a[:1], b), tellingsOf(a, signalsOf(3, "a b")), tellingsOf(a, signalsOf(3, "a b"), b),
		tellingsOf(a, b, signalsOf(3, "b a")), tellingsOf(a, signalsOf(3, "a b"), signalsOf(3, "a c")), tellingsOf(a, b, signalsOf(3, "a b")), tellingsOf(signalsOf(3, "a b"), a, b),
	}
	for _, no := range noTellings() {
		bad = append(bad, tellingsOf(no), tellingsOf(a, no), tellingsOf(no, c), tellingsOf(a, no, c))
	}
	// At each place of as many as there may be.
	for place := range 12 {
		for _, no := range [][]impl.Event{nil, {}, wentOnUpTo(nil, 0, 1), signalsOf(4, "a a")} {
			l := fan(signalsOf(3, "a"), 12)
			l[place] = no
			bad = append(bad, tellingsOf(l...))
		}
		if place > 0 {
			l := fan(signalsOf(3, "a"), 12)
			l[place], l[place-1] = l[place-1], l[place]
			bad = append(bad, tellingsOf(l...))
			l = fan(signalsOf(3, "a"), 12)
			l[place] = wentOn(l[place-1], 900, impl.EvClose, "")
			bad = append(bad, tellingsOf(l...))
		}
	}
	return bad
}

func holdLess(t *testing.T, a []impl.Event, b []impl.Event) bool {
	t.Helper()
	less, ok := impl.BranchLess(a, b)
	if !ok || less != lessByWords(a, b) {
		t.Fatalf("BranchLess %v, %v: %v, %v", a, b, less, ok)
	}
	return less
}

func holdLessRefused(t *testing.T, a []impl.Event, b []impl.Event) {
	t.Helper()
	if less, ok := impl.BranchLess(a, b); less || ok {
		t.Fatalf("BranchLess %v, %v: %v, %v", a, b, less, ok)
	}
}

func holdHas(t *testing.T, x impl.Tellings, l []impl.Event) bool {
	t.Helper()
	has, ok := impl.HasHistory(x, l)
	if !ok || has != hasByWords(x, l) {
		t.Fatalf("HasHistory %v, %v: %v, %v", x, l, has, ok)
	}
	return has
}

// holdAdd holds what good tellings are with a history more; it tells whether they are not too many.
func holdAdd(t *testing.T, x impl.Tellings, l []impl.Event) (impl.Tellings, bool) {
	t.Helper()
	want := togetherByWords(rowsIn(x), [][]impl.Event{l})
	got, ok := impl.AddBranch(x, l)
	if len(want.Branches) > impl.MaxBranches {
		if ok || len(got.Branches) != 0 {
			t.Fatalf("AddBranch %v, %v: %v, %v", x, l, got, ok)
		}
		return got, false
	}
	if !ok || !sameTellings(got, want) {
		t.Fatalf("AddBranch %v, %v: %v, %v, not %v", x, l, got, ok, want)
	}
	if has, ok := impl.HasHistory(got, l); !has || !ok || !impl.GoodTellings(got) {
		t.Fatalf("AddBranch %v, %v: %v is not good, or lacks it", x, l, got)
	}
	if len(got.Branches) < len(x.Branches) || len(got.Branches) > len(x.Branches)+1 {
		t.Fatalf("AddBranch %v, %v: %v", x, l, got)
	}
	return got, true
}

// holdOfHistory holds what is told of good tellings and a history.
func holdOfHistory(t *testing.T, x impl.Tellings, l []impl.Event) {
	t.Helper()
	has := holdHas(t, x, l)
	after, ok := holdAdd(t, x, l)
	if has && (!ok || !sameTellings(after, x)) {
		t.Fatalf("AddBranch %v, %v: %v, %v, not what was there", x, l, after, ok)
	}
}

func holdRowRefused(t *testing.T, x impl.Tellings, l []impl.Event) {
	t.Helper()
	if has, ok := impl.HasHistory(x, l); has || ok {
		t.Fatalf("HasHistory %v, %v: %v, %v", x, l, has, ok)
	}
	if after, ok := impl.AddBranch(x, l); ok || len(after.Branches) != 0 {
		t.Fatalf("AddBranch %v, %v: %v, %v", x, l, after, ok)
	}
}

// holdBranches holds what is told of good tellings alone.
func holdBranches(t *testing.T, x impl.Tellings) {
	t.Helper()
	if !impl.GoodTellings(x) {
		t.Fatalf("GoodTellings refuses %v", x)
	}
	current, ok := impl.CurrentOf(x)
	if ok != (len(x.Branches) > 0) || !slices.Equal(current, currentByWords(x)) {
		t.Fatalf("CurrentOf %v: %v, %v", x, current, ok)
	}
	if lost, ok := impl.LostSignals(x); !ok || !slices.Equal(lost, lostByWords(x)) {
		t.Fatalf("LostSignals %v: %q, %v, not %q", x, lost, ok, lostByWords(x))
	}
	if count, ok := impl.EventsIn(x); !ok || count != eventsByWords(x) {
		t.Fatalf("EventsIn %v: %d, %v, not %d", x, count, ok, eventsByWords(x))
	}
	holdRowRefused(t, x, nil)
	holdRowRefused(t, x, []impl.Event{})
}

// holdBeginnings holds of each branch that some beginnings of it are there, and what is not one is not.
func holdBeginnings(t *testing.T, x impl.Tellings) {
	t.Helper()
	for _, b := range x.Branches {
		count := len(b.Events)
		for _, length := range []int{1, 2, count / 2, count - 1, count} {
			if length >= 1 && length <= count {
				holdOfHistory(t, x, b.Events[:length])
			}
		}
		for _, other := range besideRow(b.Events) {
			if isTellingByWords(other) {
				holdOfHistory(t, x, other)
			} else {
				holdRowRefused(t, x, other)
			}
		}
	}
}

// besideRow tells rows that are one event more than a row, or unlike it in one event.
func besideRow(l []impl.Event) [][]impl.Event {
	var rows [][]impl.Event
	last := len(l) - 1
	for _, kind := range []int{impl.EvTaskDone, impl.EvClose} {
		rows = append(rows, wentOn(l, l[last].Version, kind, ""), wentOn(l, l[last].Version+1, kind, "new"))
	}
	for _, place := range []int{0, last / 2, last} {
		for _, change := range []func(e *impl.Event){
			func(e *impl.Event) { e.Version++ }, func(e *impl.Event) { e.Kind++ }, func(e *impl.Event) { e.Name += "z" }, func(e *impl.Event) { e.Id++ },
		} {
			other := slices.Clone(l)
			change(&other[place])
			rows = append(rows, other)
		}
	}
	return rows
}

// holdTogether holds what two good tellings make together, both ways; it tells whether they are not too many.
func holdTogether(t *testing.T, a impl.Tellings, b impl.Tellings) bool {
	t.Helper()
	want := togetherByWords(rowsIn(a), rowsIn(b))
	fits := len(want.Branches) <= impl.MaxBranches
	for _, pair := range [][2]impl.Tellings{{a, b}, {b, a}} {
		got, ok := impl.MergeTellings(pair[0], pair[1])
		if ok != fits || fits && !sameTellings(got, want) || !fits && len(got.Branches) != 0 {
			t.Fatalf("MergeTellings %v, %v: %v, %v, not %v", pair[0], pair[1], got, ok, want)
		}
	}
	if !fits {
		return false
	}
	// What both tell is there, and taking one of them in once more changes nothing.
	for _, x := range []impl.Tellings{a, b, want} {
		for _, pair := range [][2]impl.Tellings{{want, x}, {x, want}} {
			if again, ok := impl.MergeTellings(pair[0], pair[1]); !ok || !sameTellings(again, want) {
				t.Fatalf("MergeTellings %v, %v: %v, %v", pair[0], pair[1], again, ok)
			}
		}
		for _, b := range x.Branches {
			if has, ok := impl.HasHistory(want, b.Events); !has || !ok {
				t.Fatalf("HasHistory %v, %v: %v, %v", want, b.Events, has, ok)
			}
		}
	}
	return true
}

func holdTogetherRefused(t *testing.T, a impl.Tellings, b impl.Tellings) {
	t.Helper()
	for _, pair := range [][2]impl.Tellings{{a, b}, {b, a}} {
		if got, ok := impl.MergeTellings(pair[0], pair[1]); ok || len(got.Branches) != 0 {
			t.Fatalf("MergeTellings %v, %v: %v, %v", pair[0], pair[1], got, ok)
		}
	}
}

// holdBranchesRefused holds the zero answer of each function where tellings are not good.
func holdBranchesRefused(t *testing.T, x impl.Tellings) {
	t.Helper()
	if impl.GoodTellings(x) {
		t.Fatalf("GoodTellings takes %v", x)
	}
	if current, ok := impl.CurrentOf(x); ok || len(current) != 0 {
		t.Fatalf("CurrentOf %v: %v, %v", x, current, ok)
	}
	if lost, ok := impl.LostSignals(x); ok || len(lost) != 0 {
		t.Fatalf("LostSignals %v: %q, %v", x, lost, ok)
	}
	if count, ok := impl.EventsIn(x); ok || count != 0 {
		t.Fatalf("EventsIn %v: %d, %v", x, count, ok)
	}
	for _, l := range [][]impl.Event{nil, {}, signalsOf(3, ""), signalsOf(3, "a"), signalsOf(4, "x y"), signalsOf(3, "a a")} {
		holdRowRefused(t, x, l)
	}
	for _, b := range x.Branches {
		holdRowRefused(t, x, b.Events)
	}
	for _, other := range []impl.Tellings{{}, {Branches: []impl.Branch{}}, x, tellingsOf(signalsOf(3, "a"))} {
		holdTogetherRefused(t, x, other)
	}
}

func TestBranchesAreAsTold(t *testing.T) {
	if impl.MaxBranches != 12 || impl.MaxEvents != 60 {
		t.Error(impl.MaxBranches, impl.MaxEvents)
	}
	for _, l := range noTellings() {
		if isTellingByWords(l) {
			t.Errorf("%v is to be none", l)
		}
	}
	for _, x := range badTellings() {
		if goodTellingsByWords(x) {
			t.Errorf("%v are to be bad", x)
		}
	}
}

// Where two histories part at their first event, at their last one and in between, by Version, by Kind and by Name.
func TestNamedBranchLess(t *testing.T) {
	first := historyOf(3, impl.EvStart, "m")
	same := historyOf(3, impl.EvStart, "m", 3, impl.EvSignal, "m", 5, impl.EvTaskDone, "m")
	for _, c := range []struct {
		less, more []impl.Event
	}{
		{historyOf(2, impl.EvStart, "m"), first}, {historyOf(3, impl.EvStart, "lz"), first}, {historyOf(3, impl.EvStart, ""), first}, {historyOf(0, impl.EvStart, ""), historyOf(1000000, impl.EvStart, "")},
		// The first unlike event decides, whatever is behind it and however long they are.
		{historyOf(2, impl.EvStart, "m", 1000000, impl.EvClose, "z"), first}, {historyOf(3, impl.EvStart, "a", 9, impl.EvSignal, "a", 9, impl.EvClose, ""), first},
		{historyOf(3, impl.EvStart, "a", 9, impl.EvSignal, "z"), historyOf(3, impl.EvStart, "b", 3, impl.EvSignal, "a")},
		// Version is ahead of Kind, Kind ahead of Name.
		{historyOf(3, impl.EvStart, "m", 3, impl.EvClose, "z"), historyOf(3, impl.EvStart, "m", 4, impl.EvSignal, "a")},
		{historyOf(3, impl.EvStart, "m", 3, impl.EvSignal, "z"), historyOf(3, impl.EvStart, "m", 3, impl.EvTaskDone, "a")},
		{historyOf(3, impl.EvStart, "m", 9, impl.EvSignal, "z"), historyOf(3, impl.EvStart, "m", 10, impl.EvSignal, "a")},
		{historyOf(3, impl.EvStart, "z", 3, impl.EvSignal, "a"), historyOf(4, impl.EvStart, "a", 4, impl.EvSignal, "a")},
		// Names by bytes; one that ends there is less.
		{historyOf(3, impl.EvStart, "m", 3, impl.EvSignal, ""), historyOf(3, impl.EvStart, "m", 3, impl.EvSignal, "0")},
		{historyOf(3, impl.EvStart, "m", 3, impl.EvSignal, "9"), historyOf(3, impl.EvStart, "m", 3, impl.EvSignal, "a")},
		{historyOf(3, impl.EvStart, "m", 3, impl.EvSignal, "10"), historyOf(3, impl.EvStart, "m", 3, impl.EvSignal, "9")},
		{historyOf(3, impl.EvStart, "m", 3, impl.EvSignal, "ab"), historyOf(3, impl.EvStart, "m", 3, impl.EvSignal, "b")},
		{historyOf(3, impl.EvStart, "m", 3, impl.EvSignal, "a"), historyOf(3, impl.EvStart, "m", 3, impl.EvSignal, "aa")},
		// In between, and at the last event.
		{historyOf(3, impl.EvStart, "m", 3, impl.EvSignal, "l", 5, impl.EvTaskDone, "z"), same}, {historyOf(3, impl.EvStart, "m", 3, impl.EvSignal, "m", 4, impl.EvTaskDone, "z"), same},
		{historyOf(3, impl.EvStart, "m", 3, impl.EvSignal, "m", 5, impl.EvSignal, "z"), same}, {historyOf(3, impl.EvStart, "m", 3, impl.EvSignal, "m", 5, impl.EvTaskDone, "l"), same},
		// A beginning is less.
		{first, same}, {same[:1], same}, {same[:2], same}, {same, wentOn(same, 5, impl.EvSignal, "")}, {same, wentOnUpTo(same, 5, 60)},
	} {
		if !holdLess(t, c.less, c.more) || holdLess(t, c.more, c.less) {
			t.Errorf("%v is less than %v", c.less, c.more)
		}
	}
	for _, l := range [][]impl.Event{first, same, wentOnUpTo(same, 5, 60)} {
		if holdLess(t, l, slices.Clone(l)) {
			t.Errorf("%v is less than itself", l)
		}
	}
}

// Of each two histories one is less, or they are the same; of each three the order goes on.
func TestEveryTwoHistories(t *testing.T) {
	all := everyHistory(3, []int{0, 1}, []int{impl.EvStart, impl.EvSignal, impl.EvTaskDone, impl.EvClose}, []string{"", "a"})
	if len(all) < 200 {
		t.Fatal(len(all))
	}
	for i, a := range all {
		for j, b := range all {
			less, more := holdLess(t, a, b), holdLess(t, b, a)
			if less && more || (less || more) != (i != j) {
				t.Fatalf("%v, %v: %v, %v", a, b, less, more)
			}
		}
	}
	some := all[:30]
	for _, a := range some {
		for _, b := range some {
			for _, c := range some {
				if lessByWords(a, b) && lessByWords(b, c) && !holdLess(t, a, c) {
					t.Fatalf("%v, %v, %v", a, b, c)
				}
			}
		}
	}
}

func TestBranchLessOfWrongRows(t *testing.T) {
	full := wentOnUpTo(signalsOf(3, "a"), 3, 60)
	for i, l := range noTellings() {
		for _, good := range [][]impl.Event{full, full[:1], signalsOf(9, "z")} {
			holdLessRefused(t, l, good)
			holdLessRefused(t, good, l)
		}
		holdLessRefused(t, l, l)
		holdLessRefused(t, l, noTellings()[(i*5+2)%len(noTellings())])
	}
}

func TestBadTellings(t *testing.T) {
	for _, x := range badTellings() {
		holdBranchesRefused(t, x)
	}
}

// Both sides wrong, and one that is wrong where the other one has all that counts.
func TestBadTellingsOnEitherSide(t *testing.T) {
	bad := badTellings()
	for i, x := range bad {
		holdTogetherRefused(t, x, bad[(i*7+3)%len(bad)])
		holdTogetherRefused(t, x, tellingsOf(fan(signalsOf(3, "a"), 12)...))
	}
}

// Rows that are no histories, at tellings of none, one and as many branches as there may be.
func TestWrongRowsAtGoodTellings(t *testing.T) {
	for _, x := range []impl.Tellings{{}, tellingsOf(signalsOf(5, "a")), tellingsOf(fan(signalsOf(5, "a"), 11)...), tellingsOf(fan(signalsOf(5, "a"), 12)...)} {
		for _, l := range noTellings() {
			holdRowRefused(t, x, l)
		}
	}
}

// From no branches up to MaxBranches, that part at their first event and behind some; one more is too many.
func TestHowManyBranches(t *testing.T) {
	for _, first := range [][]impl.Event{nil, signalsOf(3, ""), signalsOf(3, "a b"), wentOnUpTo(signalsOf(3, "a"), 3, 59)} {
		for count := range impl.MaxBranches + 1 {
			x := tellingsOf(fan(first, count)...)
			holdBranches(t, x)
			holdBeginnings(t, x)
			if n, _ := impl.EventsIn(x); n != count+len(first)*min(1, count) {
				t.Errorf("EventsIn %v: %d", x, n)
			}
		}
		for _, count := range []int{13, 14, 40} {
			holdBranchesRefused(t, tellingsOf(fan(first, count)...))
		}
	}
	holdBranches(t, impl.Tellings{Branches: []impl.Branch{}})
}

// Branches of one event, and of as many as there may be.
func TestHowManyEventsOfBranches(t *testing.T) {
	for _, count := range []int{1, 2, 30, 59, 60} {
		l := wentOnUpTo(historyOf(3, impl.EvStart, ""), 3, count)
		holdBranches(t, tellingsOf(l))
		holdBeginnings(t, tellingsOf(l))
		if n, ok := impl.EventsIn(tellingsOf(l)); n != count || !ok {
			t.Errorf("EventsIn of %d: %d, %v", count, n, ok)
		}
	}
	holdBranchesRefused(t, tellingsOf(wentOnUpTo(historyOf(3, impl.EvStart, ""), 3, 61)))
	// All of them as long as can be, with nothing in common and with all but the last event.
	for _, x := range fullTellings() {
		holdBranches(t, x)
	}
	for i, want := range []int{12 * 60, 59 + 12} {
		if n, ok := impl.EventsIn(fullTellings()[i]); n != want || !ok {
			t.Errorf("EventsIn: %d, %v, not %d", n, ok, want)
		}
	}
}

// fullTellings are MaxBranches of MaxEvents events, that part at the first and at the last event.
func fullTellings() []impl.Tellings {
	var apart [][]impl.Event
	for _, first := range fan(nil, 12) {
		apart = append(apart, wentOnUpTo(first, 20, 60))
	}
	return []impl.Tellings{tellingsOf(apart...), tellingsOf(fan(wentOnUpTo(signalsOf(3, "a b"), 3, 59), 12)...)}
}

func TestNamedAdds(t *testing.T) {
	a, b, c, d := signalsOf(3, "a"), signalsOf(3, "b"), signalsOf(3, "c"), signalsOf(3, "d")
	abc := tellingsOf(a, b, c)
	for _, one := range []struct {
		x    impl.Tellings
		l    []impl.Event
		want impl.Tellings
	}{
		{impl.Tellings{}, a, tellingsOf(a)}, {impl.Tellings{}, a[:1], tellingsOf(a[:1])}, {tellingsOf(a), a, tellingsOf(a)},
		// One that is there, and the beginning of one and of several.
		{abc, a, abc}, {abc, b, abc}, {abc, c, abc}, {abc, a[:1], abc}, {tellingsOf(signalsOf(3, "a b"), signalsOf(3, "b a")), b, tellingsOf(signalsOf(3, "a b"), signalsOf(3, "b a"))},
		// One of which a branch is the beginning: that one goes, and it stands elsewhere or there.
		{tellingsOf(a[:1]), a, tellingsOf(a)}, {abc, signalsOf(3, "a z"), tellingsOf(signalsOf(3, "a z"), b, c)}, {abc, signalsOf(3, "c a b"), tellingsOf(a, b, signalsOf(3, "c a b"))},
		{abc, wentOn(b, 99, impl.EvClose, "z"), tellingsOf(a, wentOn(b, 99, impl.EvClose, "z"), c)},
		// One that comes first, last and in between.
		{tellingsOf(b, c), a, abc}, {tellingsOf(a, c), b, abc}, {tellingsOf(a, b), c, abc}, {abc, d, tellingsOf(a, b, c, d)},
		{abc, historyOf(2, impl.EvStart, "", 9, impl.EvClose, ""), tellingsOf(historyOf(2, impl.EvStart, "", 9, impl.EvClose, ""), a, b, c)},
		{abc, historyOf(4, impl.EvStart, ""), tellingsOf(a, b, c, historyOf(4, impl.EvStart, ""))},
		{abc, historyOf(3, impl.EvStart, "", 3, impl.EvSignal, "aa"), tellingsOf(a, historyOf(3, impl.EvStart, "", 3, impl.EvSignal, "aa"), b, c)},
	} {
		got, ok := holdAdd(t, one.x, one.l)
		if !ok || !sameTellings(got, one.want) {
			t.Errorf("AddBranch %v, %v: %v, %v, not %v", one.x, one.l, got, ok, one.want)
		}
	}
}

// With room and without, and without room where the one that goes makes it.
func TestAddsUpToTheLimit(t *testing.T) {
	for _, first := range [][]impl.Event{nil, signalsOf(3, ""), signalsOf(3, "a b")} {
		all := fan(first, 13)
		for place, one := range all {
			rest := slices.Delete(slices.Clone(all), place, place+1)
			if got, ok := impl.AddBranch(tellingsOf(rest...), one); ok || len(got.Branches) != 0 {
				t.Fatalf("AddBranch %v, %v: %v, %v", rest, one, got, ok)
			}
			holdAdd(t, tellingsOf(rest...), one)
			less := slices.Delete(slices.Clone(rest), place%12, place%12+1)
			if got, ok := holdAdd(t, tellingsOf(less...), one); !ok || len(got.Branches) != 12 {
				t.Fatalf("AddBranch %v, %v: %v, %v", less, one, got, ok)
			}
		}
		x := tellingsOf(all[:12]...)
		for place := range 12 {
			longer := wentOn(all[place], 500, impl.EvClose, "end")
			want := slices.Clone(all[:12])
			want[place] = longer
			if got, ok := holdAdd(t, x, longer); !ok || !sameTellings(got, tellingsOf(want...)) {
				t.Fatalf("AddBranch %v, %v: %v, %v", x, longer, got, ok)
			}
			if got, ok := holdAdd(t, x, all[place]); !ok || !sameTellings(got, x) {
				t.Fatalf("AddBranch %v, %v: %v, %v", x, all[place], got, ok)
			}
		}
		if len(first) > 0 {
			if got, ok := holdAdd(t, x, first); !ok || !sameTellings(got, x) {
				t.Fatalf("AddBranch %v, %v: %v, %v", x, first, got, ok)
			}
		}
	}
}

// Of two beginnings of one history one is a beginning of the other one, so no tellings have both: one at most goes when it comes.
func TestSeveralBeginningsOfOne(t *testing.T) {
	whole := signalsOf(3, "a b c d")
	for i := 1; i <= len(whole); i++ {
		for j := 1; j <= len(whole); j++ {
			holdBranchesRefused(t, tellingsOf(whole[:i], whole[:j]))
		}
		x := impl.Tellings{}
		for _, l := range [][]impl.Event{whole[:i], signalsOf(3, "z"), whole} {
			x, _ = holdAdd(t, x, l)
		}
		if !sameTellings(x, tellingsOf(whole, signalsOf(3, "z"))) {
			t.Errorf("%v", x)
		}
	}
}

// Each tellings of few branches, and each history.
func TestEveryFewTellings(t *testing.T) {
	histories := everyHistory(3, []int{0, 1}, []int{impl.EvStart, impl.EvSignal}, []string{"a", "b"})
	all := everyTellings(histories, 3)
	if len(histories) < 20 || len(all) < 1000 {
		t.Fatal(len(histories), len(all))
	}
	for i, x := range all {
		holdBranches(t, x)
		if i%5 != 0 {
			continue
		}
		for _, l := range histories {
			holdOfHistory(t, x, l)
		}
	}
}

// All rows of two and three histories: good just where the words say so.
func TestEveryRowOfBranches(t *testing.T) {
	histories := everyHistory(2, []int{0, 1}, []int{impl.EvStart, impl.EvSignal, impl.EvTaskDone}, []string{"", "a"})
	good, bad := 0, 0
	hold := func(x impl.Tellings) {
		if goodTellingsByWords(x) {
			good++
		} else {
			bad++
		}
		if impl.GoodTellings(x) != goodTellingsByWords(x) {
			t.Fatalf("GoodTellings %v: %v", x, impl.GoodTellings(x))
		}
	}
	for _, a := range histories {
		for _, b := range histories {
			hold(tellingsOf(a, b))
			for _, c := range histories {
				hold(tellingsOf(a, b, c))
			}
		}
	}
	if good < 1000 || bad < 1000 {
		t.Error(good, bad)
	}
}

// Promise 15, of each two of some tellings.
func TestEveryTwoOfTellings(t *testing.T) {
	all := everyTellings(everyHistory(3, []int{0}, []int{impl.EvStart, impl.EvSignal}, []string{"a", "b"}), 3)
	all = append(all, everyTellings(everyHistory(2, []int{0, 1}, []int{impl.EvStart, impl.EvSignal}, []string{"a"}), 3)...)
	for _, a := range all {
		for _, b := range all {
			if !holdTogether(t, a, b) {
				t.Fatalf("%v, %v", a, b)
			}
		}
	}
}

// Promise 15, of each three of some tellings: put together in any order they come to the same.
func TestEveryThreeOfTellings(t *testing.T) {
	all := everyTellings(everyHistory(3, []int{0}, []int{impl.EvStart, impl.EvSignal}, []string{"a", "b"}), 2)
	if len(all) < 20 {
		t.Fatal(len(all))
	}
	for _, a := range all {
		for _, b := range all {
			first, ok := impl.MergeTellings(a, b)
			if !ok {
				t.Fatalf("MergeTellings %v, %v", a, b)
			}
			for _, c := range all {
				second, _ := impl.MergeTellings(b, c)
				want := togetherByWords(rowsIn(a), rowsIn(b), rowsIn(c))
				for _, pair := range [][2]impl.Tellings{{first, c}, {c, first}, {a, second}, {second, a}, {first, second}} {
					if got, ok := impl.MergeTellings(pair[0], pair[1]); !ok || !sameTellings(got, want) {
						t.Fatalf("MergeTellings %v, %v: %v, %v, not %v", pair[0], pair[1], got, ok, want)
					}
				}
			}
		}
	}
}

// Promise 15: histories that are added in any order, as often as one likes, make the same tellings.
func TestManyOrdersOfHistories(t *testing.T) {
	for seed := range 60 {
		next := numbersFrom(uint64(97000 + seed))
		histories := someHistories(2+next(4), oneOfNumbers(next, 4, 8, 60), next)
		want := togetherByWords(histories)
		everyOrder(len(histories), func(order []int) {
			var x impl.Tellings
			for _, number := range slices.Concat(order, order[:1]) {
				after, ok := impl.AddBranch(x, histories[number])
				if !ok {
					t.Fatalf("AddBranch %v, %v", x, histories[number])
				}
				x = after
			}
			if !sameTellings(x, want) {
				t.Fatalf("%v in the order %v: %v, not %v", histories, order, x, want)
			}
		})
	}
}

// Promise 15: tellings of many that are put together by twos, in some orders, some of them again and again.
func TestManyOrdersOfTellings(t *testing.T) {
	for seed := range 100 {
		next := numbersFrom(uint64(97200 + seed))
		histories := someHistories(3+next(15), oneOfNumbers(next, 4, 8, 20), next)
		want := togetherByWords(histories)
		if len(want.Branches) > impl.MaxBranches {
			continue
		}
		var parts []impl.Tellings
		for range 2 + next(5) {
			var l [][]impl.Event
			for range next(9) {
				l = append(l, histories[next(len(histories))])
			}
			parts = append(parts, togetherByWords(l))
		}
		parts = append(parts, want)
		for range 5 {
			var x impl.Tellings
			for _, number := range slices.Concat(someOrder(len(parts), next), someOrder(len(parts), next)) {
				var ok bool
				if x, ok = impl.MergeTellings(x, parts[number]); !ok {
					t.Fatalf("%v", parts)
				}
			}
			if !sameTellings(x, want) {
				t.Fatalf("%v: %v, not %v", parts, x, want)
			}
		}
	}
}

func TestNamedMergesOfTellings(t *testing.T) {
	a, b, c := signalsOf(3, "a"), signalsOf(3, "b"), signalsOf(3, "c")
	none := impl.Tellings{}
	for _, one := range []struct{ x, y, want impl.Tellings }{
		{none, none, none}, {none, tellingsOf(a, b), tellingsOf(a, b)}, {tellingsOf(a, b), tellingsOf(a, b), tellingsOf(a, b)},
		{tellingsOf(a), tellingsOf(b), tellingsOf(a, b)}, {tellingsOf(a, c), tellingsOf(b), tellingsOf(a, b, c)}, {tellingsOf(a, b), tellingsOf(b, c), tellingsOf(a, b, c)},
		// Beginnings on one side, on the other one, and on both.
		{tellingsOf(a[:1]), tellingsOf(a, b), tellingsOf(a, b)}, {tellingsOf(a, b), tellingsOf(signalsOf(3, "a b"), signalsOf(3, "b a")), tellingsOf(signalsOf(3, "a b"), signalsOf(3, "b a"))},
		{tellingsOf(a, signalsOf(3, "b a")), tellingsOf(signalsOf(3, "a b"), b), tellingsOf(signalsOf(3, "a b"), signalsOf(3, "b a"))},
		{tellingsOf(a), tellingsOf(signalsOf(3, "a b"), signalsOf(3, "a c")), tellingsOf(signalsOf(3, "a b"), signalsOf(3, "a c"))},
	} {
		if !holdTogether(t, one.x, one.y) {
			t.Errorf("%v, %v", one.x, one.y)
		}
		if got, ok := impl.MergeTellings(one.x, one.y); !ok || !sameTellings(got, one.want) {
			t.Errorf("MergeTellings %v, %v: %v, %v, not %v", one.x, one.y, got, ok, one.want)
		}
	}
}

// Tellings that make MaxBranches together, and more, by as many in common; those of one side may begin those of the other.
func TestMergesOfTellingsUpToTheLimit(t *testing.T) {
	fits, over := 0, 0
	for _, first := range [][]impl.Event{nil, signalsOf(3, "a")} {
		all := fan(first, 14)
		for from := range 13 {
			for to := from + 1; to <= min(14, from+12); to++ {
				for _, more := range []int{0, 1, 2} {
					b := slices.Clone(all[from:to])
					for i := range b {
						if i < more || more == 2 {
							b[i] = wentOn(b[i], 700, impl.EvTaskDone, "on")
						}
					}
					for _, count := range []int{1, 11, 12} {
						if holdTogether(t, tellingsOf(all[:count]...), tellingsOf(b...)) {
							fits++
						} else {
							over++
						}
					}
				}
			}
		}
	}
	if fits < 500 || over < 100 {
		t.Error(fits, over)
	}
}

// Each history that comes leaves as many branches or one more, so what is put together is nowhere more on the way than at the end:
// where all of twelve are told longer by the other side, twelve are there all the way.
func TestMergesOnTheWay(t *testing.T) {
	for _, first := range [][]impl.Event{nil, signalsOf(3, "a")} {
		short := fan(first, 12)
		var long [][]impl.Event
		for _, l := range short {
			long = append(long, wentOnUpTo(l, 900, 60))
		}
		x := tellingsOf(short...)
		for _, l := range long {
			x, _ = holdAdd(t, x, l)
			if len(x.Branches) != 12 {
				t.Fatalf("%v", x)
			}
		}
		if got, ok := impl.MergeTellings(tellingsOf(short...), tellingsOf(long...)); !ok || !sameTellings(got, x) || !sameTellings(got, tellingsOf(long...)) {
			t.Fatalf("MergeTellings %v, %v: %v, %v", short, long, got, ok)
		}
		holdTogether(t, tellingsOf(short...), tellingsOf(long...))
		// One of them has another end on each side: that is one too many.
		other := slices.Clone(long)
		other[5] = wentOn(short[5], 800, impl.EvClose, "")
		holdTogetherRefused(t, tellingsOf(long...), tellingsOf(other...))
		if got, ok := impl.MergeTellings(tellingsOf(long[:11]...), tellingsOf(other[:11]...)); !ok || len(got.Branches) != 12 {
			t.Errorf("%v, %v", got, ok)
		}
	}
	for seed := range 200 {
		next := numbersFrom(uint64(97400 + seed))
		var x impl.Tellings
		for _, l := range someHistories(20, oneOfNumbers(next, 4, 8, 20), next) {
			if after, ok := holdAdd(t, x, l); ok {
				x = after
			}
		}
	}
}

func TestNamedCurrents(t *testing.T) {
	start := historyOf(0, impl.EvStart, "")
	v0, v10 := wentOn(start, 0, impl.EvSignal, "z"), wentOn(start, 10, impl.EvSignal, "a")
	for _, c := range []struct {
		x    impl.Tellings
		want []impl.Event
	}{
		{tellingsOf(start), start}, {tellingsOf(v0), v0},
		// The greatest Version of the last event is told by one branch, be it short, less or not the last one.
		{tellingsOf(v0, v10), v10}, {tellingsOf(wentOnUpTo(v0, 0, 60), v10), v10}, {tellingsOf(wentOn(v0, 11, impl.EvClose, ""), wentOnUpTo(v10, 10, 60)), wentOn(v0, 11, impl.EvClose, "")},
		{tellingsOf(wentOn(start, 0, impl.EvClose, ""), historyOf(1, impl.EvStart, "")), historyOf(1, impl.EvStart, "")},
		// By several of unlike lengths: the longest, whatever is greater.
		{tellingsOf(wentOnUpTo(v10, 10, 3), wentOn(start, 10, impl.EvSignal, "b")), wentOnUpTo(v10, 10, 3)},
		{tellingsOf(wentOn(v0, 10, impl.EvSignal, "y"), v10), wentOn(v0, 10, impl.EvSignal, "y")},
		{tellingsOf(v10, wentOnUpTo(wentOn(start, 10, impl.EvSignal, "b"), 10, 4), wentOnUpTo(wentOn(start, 10, impl.EvSignal, "c"), 10, 3)), wentOnUpTo(wentOn(start, 10, impl.EvSignal, "b"), 10, 4)},
		// By several of the same length: the greatest, by Version, by Kind and by Name.
		{tellingsOf(v10, wentOn(start, 10, impl.EvSignal, "b"), wentOn(start, 10, impl.EvSignal, "c")), wentOn(start, 10, impl.EvSignal, "c")},
		{tellingsOf(wentOn(start, 10, impl.EvSignal, "z"), wentOn(start, 10, impl.EvTaskDone, "a")), wentOn(start, 10, impl.EvTaskDone, "a")},
		{tellingsOf(wentOn(v0, 10, impl.EvClose, "z"), wentOn(v10, 10, impl.EvSignal, "")), wentOn(v10, 10, impl.EvSignal, "")},
		{tellingsOf(wentOn(v10, 10, impl.EvTaskDone, ""), wentOn(wentOn(start, 10, impl.EvSignal, "b"), 10, impl.EvSignal, "")), wentOn(wentOn(start, 10, impl.EvSignal, "b"), 10, impl.EvSignal, "")},
	} {
		holdBranches(t, c.x)
		if got, ok := impl.CurrentOf(c.x); !ok || !slices.Equal(got, c.want) {
			t.Errorf("CurrentOf %v: %v, %v, not %v", c.x, got, ok, c.want)
		}
	}
	for _, none := range []impl.Tellings{{}, {Branches: []impl.Branch{}}} {
		if got, ok := impl.CurrentOf(none); ok || len(got) != 0 {
			t.Error(got, ok)
		}
	}
}

// The current branch at each place, by its Version, its length and where it stands.
func TestCurrentAtEachPlace(t *testing.T) {
	for place := range 12 {
		l := fan(signalsOf(3, "a"), 12)
		l[place] = wentOn(l[place], 100, impl.EvTaskDone, "")
		holdBranches(t, tellingsOf(l...))
		if got, _ := impl.CurrentOf(tellingsOf(l...)); !slices.Equal(got, l[place]) {
			t.Errorf("%d: %v", place, got)
		}
		for i := range l {
			if i != place {
				l[i] = wentOnUpTo(l[i], 100, 4+(place+i)%3)
			}
		}
		l[place] = wentOnUpTo(l[place], 100, 7)
		holdBranches(t, tellingsOf(l...))
		if got, _ := impl.CurrentOf(tellingsOf(l...)); !slices.Equal(got, l[place]) {
			t.Errorf("%d: %v", place, got)
		}
	}
}

func TestNamedLostSignals(t *testing.T) {
	start := historyOf(0, impl.EvStart, "")
	current := wentOn(wentOn(start, 20, impl.EvSignal, "k"), 20, impl.EvTaskDone, "t")
	for _, c := range []struct {
		x    impl.Tellings
		lost []string
	}{
		{impl.Tellings{}, nil}, {impl.Tellings{Branches: []impl.Branch{}}, nil}, {tellingsOf(start), nil}, {tellingsOf(current), nil},
		// No signal in another branch; one that is in the current one, too, at another place and of another Version.
		{tellingsOf(wentOn(start, 0, impl.EvTaskDone, "x"), current), nil}, {tellingsOf(wentOn(start, 0, impl.EvSignal, "k"), current), nil},
		{tellingsOf(wentOn(wentOn(start, 0, impl.EvTimer, "k"), 3, impl.EvSignal, "k"), current), nil},
		// One that is lost, of any name; one whose name only another kind of event has in the current one.
		{tellingsOf(wentOn(start, 0, impl.EvSignal, "a"), current), []string{"a"}}, {tellingsOf(wentOn(start, 0, impl.EvSignal, ""), current), []string{""}},
		{tellingsOf(wentOn(start, 0, impl.EvSignal, "t"), current), []string{"t"}}, {tellingsOf(wentOn(wentOn(start, 0, impl.EvSignal, "k"), 0, impl.EvSignal, "kk"), current), []string{"kk"}},
		// One that is lost in several branches, and names in order.
		{tellingsOf(wentOn(start, 0, impl.EvSignal, "a"), wentOn(start, 5, impl.EvSignal, "a"), wentOn(wentOn(start, 6, impl.EvTaskDone, ""), 6, impl.EvSignal, "a"), current), []string{"a"}},
		{tellingsOf(wentOn(wentOn(start, 0, impl.EvSignal, "c"), 0, impl.EvSignal, "a"), wentOn(wentOn(start, 5, impl.EvSignal, "b"), 5, impl.EvSignal, "k"), current), []string{"a", "b", "c"}},
		{tellingsOf(wentOn(wentOn(start, 0, impl.EvSignal, "z"), 0, impl.EvSignal, "10"), wentOn(wentOn(start, 5, impl.EvSignal, "9"), 5, impl.EvSignal, "zz"), current), []string{"10", "9", "z", "zz"}},
		// The current one is none of the last ones.
		{tellingsOf(wentOn(wentOn(start, 0, impl.EvSignal, "c"), 9, impl.EvTaskDone, ""), wentOn(start, 5, impl.EvSignal, "b")), []string{"b"}},
	} {
		holdBranches(t, c.x)
		if got, ok := impl.LostSignals(c.x); !ok || !slices.Equal(got, c.lost) {
			t.Errorf("LostSignals %v: %q, %v, not %q", c.x, got, ok, c.lost)
		}
	}
	// As many as there can be: thirty in each branch but the current one.
	x := tellingsOf(append(rowsOfSignals(11), historyOf(11, impl.EvStart, ""))...)
	holdBranches(t, x)
	if got, ok := impl.LostSignals(x); !ok || len(got) != 330 || !slices.IsSorted(got) {
		t.Error(len(got), ok)
	}
}

func TestNamedHistories(t *testing.T) {
	a, b := signalsOf(3, "a b c"), signalsOf(3, "b")
	x := tellingsOf(a, b)
	for _, c := range []struct {
		l   []impl.Event
		has bool
	}{
		{a, true}, {b, true}, {a[:1], true}, {a[:2], true}, {a[:3], true}, {wentOn(a, 3, impl.EvSignal, "d"), false}, {wentOn(b, 3, impl.EvTaskDone, ""), false},
		{signalsOf(3, "c"), false}, {signalsOf(3, "b a"), false}, {signalsOf(3, "a c"), false}, {signalsOf(4, ""), false}, {signalsOf(4, "a"), false}, {historyOf(3, impl.EvStart, "a"), false},
		{historyOf(3, impl.EvStart, "", 3, impl.EvTaskDone, "a"), false}, {historyOf(3, impl.EvStart, "", 4, impl.EvSignal, "a"), false}, {historyOf(3, impl.EvStart, "", 3, impl.EvSignal, "aa"), false},
	} {
		if has := holdHas(t, x, c.l); has != c.has {
			t.Errorf("HasHistory %v, %v: %v", x, c.l, has)
		}
		if has := holdHas(t, impl.Tellings{}, c.l); has {
			t.Errorf("HasHistory of none, %v", c.l)
		}
	}
	holdRowRefused(t, x, nil)
	holdRowRefused(t, impl.Tellings{}, nil)
}

func TestNamedCountsOfEvents(t *testing.T) {
	a := signalsOf(3, "a b c")
	for _, c := range []struct {
		x     impl.Tellings
		count int
	}{
		{impl.Tellings{}, 0}, {tellingsOf(a[:1]), 1}, {tellingsOf(a), 4},
		// Nothing, something and all but the last event in common.
		{tellingsOf(a, signalsOf(4, "a b c")), 8}, {tellingsOf(a, signalsOf(3, "a c b")), 6}, {tellingsOf(a, signalsOf(3, "a b d")), 5}, {tellingsOf(a, signalsOf(3, "b")), 5},
		{tellingsOf(a, signalsOf(3, "a b d"), signalsOf(3, "a b e")), 6}, {tellingsOf(a, signalsOf(3, "a c"), signalsOf(3, "b")), 6},
		// The same events behind one that is unlike are not in common.
		{tellingsOf(signalsOf(3, "a c d"), signalsOf(3, "b c d")), 7}, {tellingsOf(signalsOf(3, "a c d"), signalsOf(3, "b c d"), signalsOf(3, "b c e")), 8},
		{tellingsOf(historyOf(3, impl.EvStart, "a", 3, impl.EvTaskDone, ""), historyOf(3, impl.EvStart, "b", 3, impl.EvTaskDone, "")), 4},
	} {
		holdBranches(t, c.x)
		if n, ok := impl.EventsIn(c.x); n != c.count || !ok {
			t.Errorf("EventsIn %v: %d, %v, not %d", c.x, n, ok, c.count)
		}
	}
}

func TestManyBranches(t *testing.T) {
	for seed := range 150 {
		next := numbersFrom(uint64(97600 + seed))
		x := someTellings(1+next(20), oneOfNumbers(next, 4, 8, 20), next)
		holdBranches(t, x)
		if seed%3 == 0 {
			holdBeginnings(t, x)
		}
	}
}

func TestManyTwoOfTellings(t *testing.T) {
	fits, over := 0, 0
	for seed := range 500 {
		next := numbersFrom(uint64(97800 + seed))
		histories := someHistories(4+next(32), oneOfNumbers(next, 3, 4, 8, 20), next)
		count := next(len(histories))
		a, b := togetherByWords(histories[:count]), togetherByWords(histories[oneOfNumbers(next, count, count/2, next(count+1)):])
		if len(a.Branches) > 12 || len(b.Branches) > 12 {
			continue
		}
		if holdTogether(t, a, b) {
			fits++
		} else {
			over++
		}
	}
	if fits < 150 || over < 30 {
		t.Error(fits, over)
	}
}

// One thing in good tellings is changed: they are good just where the words say so.
func TestTellingsThatAreChanged(t *testing.T) {
	good, bad := 0, 0
	for seed := range 500 {
		next := numbersFrom(uint64(98300 + seed))
		x := copyTellings(someTellings(1+next(14), 8, next))
		place := next(len(x.Branches))
		events := x.Branches[place].Events
		e := &events[next(len(events))]
		switch next(6) {
		case 0:
			e.Version += oneOfNumbers(next, -1, 1, 10)
		case 1:
			e.Kind = 1 + next(6)
		case 2:
			e.Name = []string{"", "a", "A"}[next(3)]
		case 3:
			e.Id += oneOfNumbers(next, -1, 1)
		case 4:
			x.Branches[place].Events = events[:next(len(events))]
		default:
			x.Branches = append(x.Branches, impl.Branch{Events: someHistory(events, 8, next)})
		}
		if goodTellingsByWords(x) {
			holdBranches(t, x)
			good++
		} else {
			holdBranchesRefused(t, x)
			bad++
		}
	}
	if good < 60 || bad < 200 {
		t.Error(good, bad)
	}
}

// Many who ask at once get what one gets.
func TestBranchesAskedForAtOnce(t *testing.T) {
	var group sync.WaitGroup
	a, b := tellingsOf(fan(signalsOf(3, "a"), 8)...), tellingsOf(fan(signalsOf(3, "a b"), 4)...)
	want := togetherByWords(rowsIn(a), rowsIn(b))
	for range 8 {
		group.Go(func() {
			for range 30 {
				got, ok := impl.MergeTellings(a, b)
				current, also := impl.CurrentOf(got)
				if !ok || !also || !sameTellings(got, want) || !slices.Equal(current, currentByWords(want)) {
					t.Errorf("MergeTellings: %v, %v, %v, %v", got, ok, current, also)
				}
			}
		})
	}
	group.Wait()
}
