package tests

import (
	"slices"
	"strconv"
	"sync"
	"testing"

	"loop.example/g00269/impl"
)

// somePair are two good regions that know something.
func somePair() (impl.Region, impl.Region) {
	return regionOf(0, 10, signalsOf(3, "a"), signalsOf(3, "b")), regionOf(1, 11, signalsOf(3, "b"))
}

// badWorlds are not good, each for one reason.
func badWorlds() []impl.World {
	a, b := somePair()
	bad := []impl.World{
		{}, {Line: manySaid(2)}, {Regions: []impl.Region{}}, {Regions: []impl.Region{a}}, {Regions: []impl.Region{b}},
		{Regions: []impl.Region{a, b, regionOf(2, 12)}}, {Regions: []impl.Region{a, b, a}}, {Regions: []impl.Region{a, b, b}}, {Regions: []impl.Region{a, b, {}}},
		worldOf(b, a), worldOf(a, a), worldOf(b, b), worldOf(b, a, manySaid(3)...), worldOf(regionOf(1, 0), regionOf(0, 0)), worldOf(impl.Region{}, impl.Region{}),
		worldOf(a, b, manySaid(21)...), worldOf(a, b, manySaid(22)...), worldOf(a, b, manySaid(100)...), worldOf(regionOf(0, 0), regionOf(1, 0), make([]impl.Said, 21)...),
	}
	for _, id := range append([]int{2, 9}, noRegions...) {
		bad = append(bad, worldOf(a, regionOf(id, 11)), worldOf(regionOf(id, 10), b), worldOf(regionOf(id, 10), regionOf(id, 10)))
		for _, place := range []int{0, 10, 19} {
			line := manySaid(20)
			line[place].To = id
			bad = append(bad, worldOf(a, b, line...))
		}
		bad = append(bad, worldOf(a, b, saidTo(id, 30, signalsOf(3, "a"))))
	}
	for i, w := range badWords() {
		no := impl.Region{Version: w.Version, Tellings: w.Tellings}
		bad = append(bad, worldOf(no, b), worldOf(no, b, manySaid(1)...), worldOf(a, b, impl.Said{To: i % 2, Word: w}))
		no.Id = 1
		line := manySaid(20)
		line[i%20].Word = w
		bad = append(bad, worldOf(a, no), worldOf(a, b, line...))
	}
	return bad
}

// worldSteps are steps of each kind at the bounds of a world and beside them.
func worldSteps(w impl.World) []impl.WorldStep {
	var l []impl.WorldStep
	for kind := 0; kind <= 8; kind++ {
		for _, region := range []int{-1, 0, 1, 2} {
			for _, k := range []int{-1, 0, len(w.Line) / 2, len(w.Line) - 1, len(w.Line)} {
				// What a kind does not name is not looked at, so it need not be met with all else.
				if kind >= impl.DoHear && kind <= impl.DoTwice || k == 0 || region == 0 {
					l = append(l, impl.WorldStep{Kind: kind, Region: region, What: impl.EvSignal, Name: "new", K: k})
				}
			}
		}
	}
	return append(l,
		impl.WorldStep{Kind: impl.DoCall, What: impl.EvStart}, impl.WorldStep{Kind: impl.DoCall, Region: 1, What: impl.EvStart}, impl.WorldStep{Kind: impl.DoCall, What: impl.EvTaskDone, K: 77},
		impl.WorldStep{Kind: impl.DoCall, What: 0}, impl.WorldStep{Kind: impl.DoCall, Region: 1, What: 7}, impl.WorldStep{Kind: impl.DoCall, What: impl.EvSignal, Name: "A"},
	)
}

// holdWorldStep holds what comes of a step at a good world.
func holdWorldStep(t *testing.T, w impl.World, s impl.WorldStep) (impl.World, int) {
	t.Helper()
	want, code := stepWorldByWords(w, s)
	after, got := impl.StepWorld(w, s)
	if got != code || !sameWorlds(after, want) {
		t.Fatalf("StepWorld %v, %+v: %v, %d, not %v, %d", w, s, after, got, want, code)
	}
	if !impl.GoodWorld(after) {
		t.Fatalf("StepWorld %v, %+v: %v is not good", w, s, after)
	}
	if unheard := s.Kind == impl.DoHear && code == 2; code != 0 && !unheard && !sameWorlds(after, w) {
		t.Fatalf("StepWorld %v, %+v: %v, %d is not as it was", w, s, after, got)
	}
	return after, code
}

func holdEachWorldStep(t *testing.T, w impl.World) {
	t.Helper()
	for _, s := range worldSteps(w) {
		holdWorldStep(t, w, s)
	}
}

// holdSettled holds what a good world settles to; it tells how many rounds that takes, 0 where it does not settle.
func holdSettled(t *testing.T, w impl.World) (impl.World, int) {
	t.Helper()
	want, rounds, ok := settleByWords(w)
	settled, got, fine := impl.SettleWorld(w)
	if fine != ok || got != rounds && ok || !sameWorlds(settled, want) {
		t.Fatalf("SettleWorld %v: %v, %d, %v, not %v, %d, %v", w, settled, got, fine, want, rounds, ok)
	}
	inRounds, count, also := settleInRounds(w)
	if also != fine || count != got || !sameWorlds(inRounds, settled) {
		t.Fatalf("SettleWorld %v: %v, %d, %v, not %v, %d, %v", w, settled, got, fine, inRounds, count, also)
	}
	if !ok {
		if got != 0 || !isZeroWorld(settled) {
			t.Fatalf("SettleWorld %v: %v, %d, %v", w, settled, got, fine)
		}
		return w, 0
	}
	holdIsSettled(t, settled)
	for _, r := range w.Regions {
		for _, b := range r.Tellings.Branches {
			if has, ok := impl.HasHistory(settled.Regions[0].Tellings, b.Events); !has || !ok {
				t.Fatalf("SettleWorld %v: %v lacks %v", w, settled, b)
			}
		}
	}
	return settled, got
}

// holdIsSettled holds the second half of promise 17: both have the same tellings, and one leads at most.
func holdIsSettled(t *testing.T, w impl.World) {
	t.Helper()
	if !impl.GoodWorld(w) || len(w.Line) != 0 || !sameTellings(w.Regions[0].Tellings, w.Regions[1].Tellings) {
		t.Fatalf("%v has not settled", w)
	}
	if same, ok := impl.SameIn(w); !same || !ok {
		t.Fatalf("SameIn %v: %v, %v", w, same, ok)
	}
	if ids, ok := impl.LeadersIn(w); !ok || len(ids) > 1 {
		t.Fatalf("LeadersIn %v: %v, %v", w, ids, ok)
	}
	if again, rounds, ok := impl.SettleWorld(w); !ok || rounds != 1 || !sameWorlds(again, w) {
		t.Fatalf("SettleWorld %v once more: %v, %d, %v", w, again, rounds, ok)
	}
	for id := range 2 {
		if after, code := impl.StepWorld(w, impl.WorldStep{Kind: impl.DoReapply, Region: id}); code != 1 || !sameWorlds(after, w) {
			t.Fatalf("%v has settled, and %d reapplies: %v, %d", w, id, after, code)
		}
	}
}

// holdWorld holds what is told of a good world alone.
func holdWorld(t *testing.T, w impl.World) {
	t.Helper()
	if !goodWorldByWords(w) || !impl.GoodWorld(w) {
		t.Fatalf("GoodWorld refuses %v", w)
	}
	if same, ok := impl.SameIn(w); !ok || same != alikeByWords(w) {
		t.Fatalf("SameIn %v: %v, %v", w, same, ok)
	}
	if ids, ok := impl.LeadersIn(w); !ok || !slices.Equal(ids, leadersByWords(w)) {
		t.Fatalf("LeadersIn %v: %v, %v", w, ids, ok)
	}
	holdSettled(t, w)
}

// holdWorldIsBad holds the zero answer of each function where a world is not good.
func holdWorldIsBad(t *testing.T, w impl.World) {
	t.Helper()
	if impl.GoodWorld(w) {
		t.Fatalf("GoodWorld takes %v", w)
	}
	if same, ok := impl.SameIn(w); same || ok {
		t.Fatalf("SameIn %v: %v, %v", w, same, ok)
	}
	if ids, ok := impl.LeadersIn(w); ok || len(ids) != 0 {
		t.Fatalf("LeadersIn %v: %v, %v", w, ids, ok)
	}
	if settled, rounds, ok := impl.SettleWorld(w); ok || rounds != 0 || !isZeroWorld(settled) {
		t.Fatalf("SettleWorld %v: %v, %d, %v", w, settled, rounds, ok)
	}
	for kind := 0; kind <= 8; kind++ {
		for region := range 2 {
			s := impl.WorldStep{Kind: kind, Region: region, What: impl.EvSignal, Name: "new", K: region}
			if after, code := impl.StepWorld(w, s); code != 1 || !isZeroWorld(after) {
				t.Fatalf("StepWorld %v, %+v: %v, %d", w, s, after, code)
			}
		}
	}
}

// holdWorldPlay holds what steps make of a new world, step by step and all at once.
func holdWorldPlay(t *testing.T, l []impl.WorldStep) impl.World {
	t.Helper()
	w, codes, ok := impl.PlayWorld(l)
	if len(l) > 120 {
		if ok || len(codes) != 0 || !isZeroWorld(w) {
			t.Fatalf("PlayWorld of %d steps: %v, %v, %v", len(l), w, codes, ok)
		}
		return w
	}
	want, wantCodes := playWorldByWords(l)
	if !ok || !slices.Equal(codes, wantCodes) || !sameWorlds(w, want) {
		t.Fatalf("PlayWorld %+v: %v, %v, %v, not %v, %v", l, w, codes, ok, want, wantCodes)
	}
	if !impl.GoodWorld(w) {
		t.Fatalf("PlayWorld %+v: %v is not good", l, w)
	}
	return w
}

// holdPartsByItems holds the first half of promise 17: histories whose items are the same up to an event are the same up to it, where both have items.
func holdPartsByItems(t *testing.T, w impl.World) {
	t.Helper()
	var apart [][]impl.Event
	for _, l := range historiesIn(w) {
		if !slices.ContainsFunc(apart, func(other []impl.Event) bool { return slices.Equal(other, l) }) {
			apart = append(apart, l)
		}
	}
	for i, a := range apart {
		one, ok := impl.ItemsOf(a)
		for _, b := range apart[:i] {
			two, also := impl.ItemsOf(b)
			if !ok || !also {
				continue
			}
			part, fine := impl.PartAt(a, b)
			// Where they have no event of one Version they have none in common.
			last, _ := impl.LcaOf(one, two)
			if !fine || part != last.Upto || !slices.Equal(a[:part], b[:part]) {
				t.Fatalf("%v and %v part behind %d, their items behind %d, in %v", a, b, part, last.Upto, w)
			}
		}
	}
}

func holdPart(t *testing.T, a []impl.Event, b []impl.Event, want int) {
	t.Helper()
	for _, pair := range [][2][]impl.Event{{a, b}, {b, a}} {
		if part, ok := impl.PartAt(pair[0], pair[1]); !ok || part != want {
			t.Fatalf("PartAt %v, %v: %d, %v, not %d", pair[0], pair[1], part, ok, want)
		}
	}
}

func holdPartRefused(t *testing.T, a []impl.Event, b []impl.Event) {
	t.Helper()
	for _, pair := range [][2][]impl.Event{{a, b}, {b, a}} {
		if part, ok := impl.PartAt(pair[0], pair[1]); ok || part != 0 {
			t.Fatalf("PartAt %v, %v: %d, %v", pair[0], pair[1], part, ok)
		}
	}
}

func TestNumbersOfWorlds(t *testing.T) {
	kinds := []int{impl.DoCall, impl.DoLead, impl.DoSay, impl.DoHear, impl.DoLose, impl.DoTwice, impl.DoReapply}
	if !slices.Equal(kinds, []int{1, 2, 3, 4, 5, 6, 7}) || impl.MaxWords != 20 || impl.MaxWorldSteps != 120 {
		t.Error(kinds, impl.MaxWords, impl.MaxWorldSteps)
	}
}

func TestNewWorlds(t *testing.T) {
	w := impl.NewWorld()
	if !sameWorlds(w, newWorldByWords()) || len(w.Line) != 0 {
		t.Fatalf("NewWorld: %v", w)
	}
	holdWorld(t, w)
	holdEachWorldStep(t, w)
	if ids, _ := impl.LeadersIn(w); !slices.Equal(ids, []int{0}) {
		t.Error(ids)
	}
	if settled, rounds := holdSettled(t, w); rounds != 1 || !sameWorlds(settled, w) {
		t.Errorf("%v, %d", settled, rounds)
	}
	// A new one has nothing of one that was new before.
	w.Regions[0].Version, w.Regions[1].Tellings = 10, tellingsOf(signalsOf(3, "a"))
	if again := impl.NewWorld(); !sameWorlds(again, newWorldByWords()) {
		t.Errorf("NewWorld: %v", again)
	}
	holdWorld(t, impl.World{Regions: []impl.Region{{Tellings: impl.Tellings{Branches: []impl.Branch{}}}, {Id: 1}}, Line: []impl.Said{}})
}

func TestBadWorldsAreRefused(t *testing.T) {
	for _, w := range badWorlds() {
		if goodWorldByWords(w) {
			t.Fatalf("%v is to be bad", w)
		}
		holdWorldIsBad(t, w)
	}
}

// Lines of no words, of one less than there may be, of as many and of one more.
func TestHowManyWordsOfWorlds(t *testing.T) {
	a, b := somePair()
	for _, pair := range []impl.World{newWorldByWords(), worldOf(a, b)} {
		for _, count := range []int{0, 1, 2, 3, 10, 19, 20} {
			w := withLine(pair, manySaid(count)...)
			holdWorld(t, w)
			holdEachWorldStep(t, w)
			for region := range 2 {
				after, code := holdWorldStep(t, w, impl.WorldStep{Kind: impl.DoSay, Region: region})
				if count == 20 && code != 1 || count < 20 && (code != 0 || len(after.Line) != count+1 || after.Line[count].To != 1-region) {
					t.Errorf("%d words: %v, %d", count, after.Line, code)
				}
			}
			after, code := holdWorldStep(t, w, impl.WorldStep{Kind: impl.DoTwice, K: count - 1})
			if (code == 0) != (count > 0 && count < 20) || code == 0 && !sameWords(after.Line[count].Word, w.Line[count-1].Word) {
				t.Errorf("%d words: %v, %d", count, after.Line, code)
			}
		}
		for _, count := range []int{21, 22, 40} {
			holdWorldIsBad(t, withLine(pair, manySaid(count)...))
		}
	}
}

// What is no kind, no region and no word's number, also where all else is as it is to be.
func TestWorldStepsThatAreNone(t *testing.T) {
	a, b := somePair()
	for _, w := range []impl.World{newWorldByWords(), worldOf(a, b, manySaid(3)...), worldOf(a, b, manySaid(20)...)} {
		for _, kind := range append([]int{0, 8, 9, 256 + impl.DoLead}, farNumbers...) {
			if _, code := holdWorldStep(t, w, impl.WorldStep{Kind: kind, What: impl.EvSignal, Name: "new"}); code != 1 {
				t.Errorf("kind %d: %d", kind, code)
			}
		}
		for _, region := range append([]int{2, 3, 9, 10, 256}, noRegions...) {
			for _, kind := range []int{impl.DoCall, impl.DoLead, impl.DoSay, impl.DoReapply} {
				if _, code := holdWorldStep(t, w, impl.WorldStep{Kind: kind, Region: region, What: impl.EvSignal, Name: "new"}); code != 1 {
					t.Errorf("kind %d, region %d: %d", kind, region, code)
				}
			}
		}
		for _, k := range append([]int{-1, -2, len(w.Line), len(w.Line) + 1, 20, 21, 256}, farNumbers...) {
			for _, kind := range []int{impl.DoHear, impl.DoLose, impl.DoTwice} {
				if _, code := holdWorldStep(t, w, impl.WorldStep{Kind: kind, K: k}); code != 1 {
					t.Errorf("kind %d, word %d: %d", kind, k, code)
				}
			}
		}
	}
}

// Fields of a step that its kind does not name may be anything.
func TestFieldsThatWorldStepsDoNotName(t *testing.T) {
	a, b := regionOf(0, 20, signalsOf(3, "a"), signalsOf(11, "b")), regionOf(1, 11, signalsOf(3, "c"), signalsOf(11, "b"))
	w := worldOf(a, b, manySaid(3)...)
	for kind := impl.DoCall; kind <= impl.DoReapply; kind++ {
		for region := range 2 {
			s := impl.WorldStep{Kind: kind, Region: region, What: impl.EvTaskDone, Name: "n", K: 1}
			want, code := holdWorldStep(t, w, s)
			if code != 0 {
				t.Errorf("%+v: %d", s, code)
			}
			other := s
			if kind != impl.DoCall {
				other.What, other.Name = -7, "No name"
			}
			if kind < impl.DoHear || kind > impl.DoTwice {
				other.K = -1
			} else {
				other.Region = 99
			}
			if after, code := holdWorldStep(t, w, other); code != 0 || !sameWorlds(after, want) {
				t.Errorf("%+v: %v, %d", other, after, code)
			}
		}
	}
}

func TestNamedCallsInWorlds(t *testing.T) {
	open := historyOf(0, impl.EvStart, "", 0, impl.EvSignal, "a")
	full := wentOnUpTo(open, 10, 60)
	closed := wentOn(open, 10, impl.EvClose, "")
	for _, c := range []struct {
		events []impl.Event
		kind   int
		name   string
		code   int
	}{
		{nil, impl.EvStart, "go", impl.CallOk}, {open, impl.EvSignal, "b", impl.CallOk}, {open, impl.EvTaskDone, longestName, impl.CallOk}, {full[:59], impl.EvClose, "", impl.CallOk},
		{open, 0, "b", impl.CallBad}, {open, 7, "b", impl.CallBad}, {open, impl.EvSignal, "B", impl.CallBad}, {open, impl.EvSignal, longestName + "a", impl.CallBad},
		{nil, impl.EvSignal, "b", impl.CallRefused}, {open, impl.EvStart, "", impl.CallRefused}, {closed, impl.EvSignal, "b", impl.CallRefused}, {full, impl.EvStart, "", impl.CallRefused},
		{full, impl.EvSignal, "b", impl.CallFull}, {full, impl.EvClose, "", impl.CallFull},
		{open, impl.EvSignal, "a", impl.CallAgain}, {closed, impl.EvSignal, "a", impl.CallAgain}, {full, impl.EvSignal, "a", impl.CallAgain},
	} {
		var rows [][]impl.Event
		if c.events != nil {
			rows = append(rows, c.events)
		}
		for id := range 2 {
			w := worldOf(regionOf(0, 30, rows...), regionOf(1, 31, rows...), manySaid(2)...)
			s := impl.WorldStep{Kind: impl.DoCall, Region: id, What: c.kind, Name: c.name}
			after, code := holdWorldStep(t, w, s)
			want := w
			if c.code == impl.CallOk {
				want = withRegion(w, id, regionOf(id, 30+id, wentOn(c.events, 30+id, c.kind, c.name)))
			}
			if code != c.code || !sameWorlds(after, want) {
				t.Errorf("%+v at %v: %v, %d, not %d", s, w, after, code, c.code)
			}
			// Of who does not lead only what is bad is told otherwise.
			passive := withRegion(w, id, regionOf(id, 32, rows...))
			_, code = holdWorldStep(t, passive, s)
			if c.code != impl.CallBad && code != impl.CallPassive || c.code == impl.CallBad && code != impl.CallBad {
				t.Errorf("%+v at %v: %d", s, passive, code)
			}
		}
	}
}

func TestNamedLeadsInWorlds(t *testing.T) {
	for _, c := range []struct {
		id, version, want int
	}{
		{0, 0, 10}, {1, 0, 1}, {1, 1, 11}, {0, 1, 10}, {0, 10, 20}, {1, 10, 11}, {0, 999990, 1000000}, {0, 999999, 1000000}, {1, 999990, 999991},
		// None is left.
		{0, 1000000, -1}, {1, 1000000, -1}, {1, 999991, -1}, {1, 999999, -1},
	} {
		for _, line := range []int{0, 20} {
			w := worldOf(regionOf(0, c.version), regionOf(1, c.version), manySaid(line)...)
			after, code := holdWorldStep(t, w, impl.WorldStep{Kind: impl.DoLead, Region: c.id})
			want := w
			if c.want >= 0 {
				want = withRegion(w, c.id, regionOf(c.id, c.want))
			}
			if (code == 0) != (c.want >= 0) || code > 1 || !sameWorlds(after, want) {
				t.Errorf("%d at %d: %v, %d", c.id, c.version, after, code)
			}
		}
	}
}

// Each word of a line leaves it, and is doubled, and all others stay in their order.
func TestWordsOnLines(t *testing.T) {
	a, b := somePair()
	for _, count := range []int{1, 2, 3, 19, 20} {
		w := worldOf(a, b, manySaid(count)...)
		for k := range count {
			rest := slices.Concat(w.Line[:k], w.Line[k+1:])
			after, code := holdWorldStep(t, w, impl.WorldStep{Kind: impl.DoLose, K: k})
			if code != 0 || !sameWorlds(after, withLine(w, rest...)) {
				t.Errorf("word %d of %d is lost: %v, %d", k, count, after, code)
			}
			after, code = holdWorldStep(t, w, impl.WorldStep{Kind: impl.DoHear, K: k})
			to := w.Line[k].To
			heard, ok := impl.HearWord(w.Regions[to], w.Line[k].Word)
			if code != 0 || !ok || !sameWorlds(after, withRegion(withLine(w, rest...), to, heard)) {
				t.Errorf("word %d of %d is heard: %v, %d", k, count, after, code)
			}
			after, code = holdWorldStep(t, w, impl.WorldStep{Kind: impl.DoTwice, K: k})
			if count < 20 && (code != 0 || !sameWorlds(after, withLine(w, slices.Concat(w.Line, w.Line[k:k+1])...))) || count == 20 && (code != 1 || !sameWorlds(after, w)) {
				t.Errorf("word %d of %d is doubled: %v, %d", k, count, after, code)
			}
		}
	}
}

func TestNamedSays(t *testing.T) {
	a, b := somePair()
	w := worldOf(a, b)
	for _, s := range []struct {
		region int
		want   impl.Said
	}{{0, saidTo(1, 10, signalsOf(3, "a"), signalsOf(3, "b"))}, {1, saidTo(0, 11, signalsOf(3, "b"))}} {
		if after, code := holdWorldStep(t, w, impl.WorldStep{Kind: impl.DoSay, Region: s.region}); code != 0 || !sameWorlds(after, worldOf(a, b, s.want)) {
			t.Errorf("region %d: %v, %d", s.region, after, code)
		}
	}
	// What was said stays what it was when the region goes on.
	said, _ := impl.StepWorld(w, impl.WorldStep{Kind: impl.DoSay})
	after, code := holdWorldStep(t, said, impl.WorldStep{Kind: impl.DoCall, What: impl.EvSignal, Name: "new"})
	if code != 0 || !sameWorlds(withLine(after), withLine(worldOf(regionOf(0, 10, signalsOf(3, "a"), wentOn(signalsOf(3, "b"), 10, impl.EvSignal, "new")), b))) || !sameWorlds(withLine(w, after.Line...), said) {
		t.Errorf("%v, %d", after, code)
	}
	// A passive one has as much to say, and a new one, too.
	for id := range 2 {
		w := worldOf(regionOf(0, 5, signalsOf(3, "a")), regionOf(1, 0))
		if _, code := holdWorldStep(t, w, impl.WorldStep{Kind: impl.DoSay, Region: id}); code != 0 {
			t.Errorf("region %d: %d", id, code)
		}
	}
}

func TestNamedHearsInWorlds(t *testing.T) {
	a, b := signalsOf(3, "a"), signalsOf(3, "b")
	all := fan(signalsOf(3, "a"), 14)
	for _, c := range []struct {
		r    impl.Region
		said impl.Said
		code int
		want impl.Region
	}{
		{regionOf(0, 10, a), saidTo(0, 11, b), 0, regionOf(0, 11, a, b)}, {regionOf(1, 11, a), saidTo(1, 5, b), 0, regionOf(1, 11, a, b)}, {regionOf(1, 0), saidTo(1, 3, a), 0, regionOf(1, 3, a)},
		// Nothing new: the same, less, nothing.
		{regionOf(0, 10, a, b), saidTo(0, 10, a, b), 0, regionOf(0, 10, a, b)}, {regionOf(0, 10, a, b), saidTo(0, 3, a[:1]), 0, regionOf(0, 10, a, b)}, {regionOf(1, 10, a), saidTo(1, 0), 0, regionOf(1, 10, a)}, {regionOf(0, 0), saidTo(0, 0), 0, regionOf(0, 0)},
		{regionOf(0, 10, a), saidTo(0, 99), 0, regionOf(0, 99, a)},
		// As many branches as may be, and one more.
		{ledAt(0, all[:11]...), saidTo(0, 90, all[11]), 0, regionOf(0, 90, all[:12]...)}, {ledAt(1, all[:6]...), saidTo(1, 91, all[5:12]...), 0, regionOf(1, 91, all[:12]...)}, {ledAt(1, all[:12]...), saidTo(1, 91, all[:12]...), 0, regionOf(1, 91, all[:12]...)},
		{ledAt(0, all[:12]...), saidTo(0, 90, all[12]), 2, ledAt(0, all[:12]...)}, {ledAt(1, all[:12]...), saidTo(1, 90, all[12]), 2, ledAt(1, all[:12]...)}, {ledAt(0, all[:6]...), saidTo(0, 900, all[5:13]...), 2, ledAt(0, all[:6]...)},
		{ledAt(1, all[12]), saidTo(1, 900, all[:12]...), 2, ledAt(1, all[12])}, {ledAt(0, all[:12]...), saidTo(0, 1000000, all[2:14]...), 2, ledAt(0, all[:12]...)},
	} {
		to := c.said.To
		for place := range 3 {
			line := manySaid(3)
			line[place] = c.said
			w := withRegion(withLine(newWorldByWords(), line...), to, c.r)
			after, code := holdWorldStep(t, w, impl.WorldStep{Kind: impl.DoHear, K: place})
			want := withRegion(withLine(w, slices.Concat(line[:place], line[place+1:])...), to, c.want)
			if code != c.code || !sameWorlds(after, want) {
				t.Errorf("%v of %v: %v, %d, not %d", c.said, w, after, code, c.code)
			}
		}
	}
}

func TestNamedReappliesInWorlds(t *testing.T) {
	start := historyOf(0, impl.EvStart, "")
	lost := signalledOn(start, 0, "c", "a", "b")
	current := func(id int) []impl.Event { return signalledOn(start, 20+id, "k") }
	for _, c := range []struct {
		// The branches of the region, of which the last one counts, and the names that it reapplies.
		l     func(id int) [][]impl.Event
		names []string
	}{
		{func(id int) [][]impl.Event { return nil }, nil}, {func(id int) [][]impl.Event { return [][]impl.Event{current(id)} }, nil},
		{func(id int) [][]impl.Event { return [][]impl.Event{signalledOn(start, 0, "k"), current(id)} }, nil},
		{func(id int) [][]impl.Event { return [][]impl.Event{lost, current(id)} }, []string{"a", "b", "c"}},
		{func(id int) [][]impl.Event { return [][]impl.Event{lost, signalledOn(current(id), 20+id, "b")} }, []string{"a", "c"}},
		// None of what is lost may come: it is closed, full, or has as many signals as may be.
		{func(id int) [][]impl.Event {
			return [][]impl.Event{lost, wentOn(current(id), 20+id, impl.EvClose, "")}
		}, nil},
		{func(id int) [][]impl.Event { return [][]impl.Event{lost, wentOnUpTo(current(id), 20+id, 60)} }, nil},
		{func(id int) [][]impl.Event { return [][]impl.Event{lost, startedWithout(20+id, 30)} }, nil},
		// Some of it.
		{func(id int) [][]impl.Event { return [][]impl.Event{lost, wentOnUpTo(current(id), 20+id, 58)} }, []string{"a", "b"}},
		{func(id int) [][]impl.Event { return [][]impl.Event{lost, startedWithout(20+id, 29)} }, []string{"a"}},
	} {
		for id := range 2 {
			l := c.l(id)
			w := withRegion(withLine(newWorldByWords(), manySaid(2)...), id, regionOf(id, 20+id, l...))
			after, code := holdWorldStep(t, w, impl.WorldStep{Kind: impl.DoReapply, Region: id})
			want, wantCode := w, 1
			if len(c.names) > 0 {
				last := len(l) - 1
				l = append(slices.Clone(l[:last]), signalledOn(l[last], 20+id, c.names...))
				want, wantCode = withRegion(w, id, regionOf(id, 20+id, l...)), 0
			}
			if code != wantCode || !sameWorlds(after, want) {
				t.Errorf("%v: %v, %d, not %d", w, after, code, wantCode)
			}
			// Who does not lead reapplies nothing.
			passive := withRegion(w, id, regionOf(id, 22, c.l(id)...))
			if _, code := holdWorldStep(t, passive, impl.WorldStep{Kind: impl.DoReapply, Region: id}); code != 1 {
				t.Errorf("%v: %d", passive, code)
			}
			holdWorld(t, w)
			holdWorld(t, passive)
		}
	}
}

func TestNamedSameAndLeaders(t *testing.T) {
	a, b := signalsOf(0, "a"), signalsOf(0, "b")
	for _, c := range []struct {
		w       impl.World
		same    bool
		leaders []int
	}{
		// None leads, one, and both.
		{worldOf(regionOf(0, 2), regionOf(1, 2)), true, nil}, {worldOf(regionOf(0, 1), regionOf(1, 0)), false, nil}, {worldOf(regionOf(0, 15, a), regionOf(1, 29, b)), false, nil}, {worldOf(regionOf(0, 11, a), regionOf(1, 10, a)), false, nil},
		{worldOf(regionOf(0, 0), regionOf(1, 0)), true, []int{0}}, {worldOf(regionOf(0, 1, a), regionOf(1, 1, a)), true, []int{1}}, {worldOf(regionOf(0, 1000000), regionOf(1, 1000000)), true, []int{0}}, {worldOf(regionOf(0, 999991), regionOf(1, 999991)), true, []int{1}},
		{worldOf(regionOf(0, 10), regionOf(1, 20)), false, []int{0}}, {worldOf(regionOf(0, 11), regionOf(1, 21)), false, []int{1}},
		{worldOf(regionOf(0, 0), regionOf(1, 1)), false, []int{0, 1}}, {worldOf(regionOf(0, 20, a), regionOf(1, 11, a)), false, []int{0, 1}},
		// The same Version and other tellings, and the other way about; the line does not count.
		{worldOf(regionOf(0, 10, a), regionOf(1, 10, b)), false, []int{0}}, {worldOf(regionOf(0, 10, a), regionOf(1, 10, a, b)), false, []int{0}}, {worldOf(regionOf(0, 10, a), regionOf(1, 10)), false, []int{0}}, {worldOf(regionOf(0, 10), regionOf(1, 10, a)), false, []int{0}},
		{worldOf(regionOf(0, 10, a), regionOf(1, 10, a[:1])), false, []int{0}}, {worldOf(regionOf(0, 10, a, b), regionOf(1, 10, a, signalsOf(0, "c"))), false, []int{0}}, {worldOf(regionOf(0, 10, a, b), regionOf(1, 11, a, b)), false, []int{0, 1}},
		{worldOf(regionOf(0, 10, a, b), regionOf(1, 10, a, b), manySaid(20)...), true, []int{0}}, {worldOf(regionOf(0, 10, a), regionOf(1, 11, b), manySaid(1)...), false, []int{0, 1}},
	} {
		holdWorld(t, c.w)
		if same, ok := impl.SameIn(c.w); !ok || same != c.same {
			t.Errorf("SameIn %v: %v, %v", c.w, same, ok)
		}
		if ids, ok := impl.LeadersIn(c.w); !ok || !slices.Equal(ids, c.leaders) {
			t.Errorf("LeadersIn %v: %v, %v", c.w, ids, ok)
		}
	}
}

func TestNamedSettles(t *testing.T) {
	start := historyOf(0, impl.EvStart, "")
	a, b := signalledOn(start, 10, "a"), signalledOn(start, 11, "b")
	closed := wentOn(signalledOn(start, 11, "b"), 11, impl.EvClose, "")
	for _, c := range []struct {
		w       impl.World
		rounds  int
		version int
		want    [][]impl.Event
	}{
		// Settled already, whoever leads, whatever is on the line.
		{newWorldByWords(), 1, 0, nil}, {withLine(newWorldByWords(), manySaid(20)...), 1, 0, nil}, {worldOf(regionOf(0, 11, a, b), regionOf(1, 11, a, b)), 3, 11, [][]impl.Event{a, signalledOn(b, 11, "a")}},
		{worldOf(regionOf(0, 12, a, b), regionOf(1, 12, a, b), manySaid(1)...), 1, 12, [][]impl.Event{a, b}}, {worldOf(regionOf(0, 11, a, closed), regionOf(1, 11, a, closed)), 1, 11, [][]impl.Event{a, closed}},
		{worldOf(regionOf(0, 10, a), regionOf(1, 10, a)), 1, 10, [][]impl.Event{a}}, {worldOf(regionOf(0, 11, b), regionOf(1, 11, b), manySaid(19)...), 1, 11, [][]impl.Event{b}},
		// Only one knows, or only a greater Version.
		{worldOf(regionOf(0, 10, a), regionOf(1, 0)), 2, 10, [][]impl.Event{a}}, {worldOf(regionOf(0, 0), regionOf(1, 11, b)), 2, 11, [][]impl.Event{b}}, {worldOf(regionOf(0, 10), regionOf(1, 11)), 2, 11, nil}, {worldOf(regionOf(0, 20, a), regionOf(1, 11, a)), 2, 20, [][]impl.Event{a}},
		{worldOf(regionOf(0, 10, a), regionOf(1, 10, signalledOn(a, 10, "c"))), 2, 10, [][]impl.Event{signalledOn(a, 10, "c")}},
		// Both lead, and signals are lost: the one of the greater Version reapplies them.
		{worldOf(regionOf(0, 10, a), regionOf(1, 11, b)), 3, 11, [][]impl.Event{a, signalledOn(b, 11, "a")}}, {worldOf(regionOf(0, 20, a), regionOf(1, 11, b)), 3, 20, [][]impl.Event{a, signalledOn(b, 20, "a")}},
		{worldOf(regionOf(0, 20, signalledOn(start, 20, "a")), regionOf(1, 11, b)), 3, 20, [][]impl.Event{b, signalledOn(start, 20, "a", "b")}},
		{worldOf(regionOf(0, 20, a, b), regionOf(1, 11)), 3, 20, [][]impl.Event{a, signalledOn(b, 20, "a")}}, {worldOf(regionOf(0, 0), regionOf(1, 21, a, b)), 3, 21, [][]impl.Event{a, signalledOn(b, 21, "a")}},
		// None of the greater Version is there to reapply, or none may come.
		{worldOf(regionOf(0, 12, a), regionOf(1, 11, b)), 2, 12, [][]impl.Event{a, b}}, {worldOf(regionOf(0, 10, a), regionOf(1, 19, b)), 2, 19, [][]impl.Event{a, b}}, {worldOf(regionOf(0, 10, a), regionOf(1, 11, closed)), 2, 11, [][]impl.Event{a, closed}},
		// What is on the line is heard by none.
		{worldOf(regionOf(0, 10, a), regionOf(1, 10, a), saidTo(0, 900, signalsOf(3, "x")), saidTo(1, 900, signalsOf(3, "x"))), 1, 10, [][]impl.Event{a}},
	} {
		settled, rounds := holdSettled(t, c.w)
		want := worldOf(regionOf(0, c.version, c.want...), regionOf(1, c.version, c.want...))
		if rounds != c.rounds || !sameWorlds(settled, want) {
			t.Errorf("SettleWorld %v: %v, %d, not %v, %d", c.w, settled, rounds, want, c.rounds)
		}
		holdWorld(t, c.w)
	}
}

// The tellings of both together are as many as may be, and too many; what is on the line does not make them more.
func TestSettlesUpToTheLimit(t *testing.T) {
	fits, over := 0, 0
	for _, first := range [][]impl.Event{nil, signalsOf(3, "a")} {
		all := fan(first, 16)
		for to := range 13 {
			for number := range 45 {
				from := number / 3
				end := min(16, from+[]int{1, 6, 12}[number%3])
				w := worldOf(ledAt(0, all[:to]...), ledAt(1, all[from:end]...), saidTo(0, 900, fan(signalsOf(3, "z"), 12)...))
				settled, rounds := holdSettled(t, w)
				count := max(to, end)
				if from > to {
					count = to + end - from
				}
				if (rounds > 0) != (count <= 12) || rounds > 0 && len(settled.Regions[1].Tellings.Branches) != count {
					t.Fatalf("SettleWorld of %d and of %d to %d: %d, %v", to, from, end, rounds, settled)
				}
				if rounds > 0 {
					fits++
				} else {
					over++
				}
			}
		}
	}
	if fits < 200 || over < 200 {
		t.Error(fits, over)
	}
}

func TestFullWorldsSettle(t *testing.T) {
	for _, x := range fullTellings() {
		l := rowsIn(x)
		var line []impl.Said
		for number := range 20 {
			line = append(line, impl.Said{To: number % 2, Word: wordOf(1000000, l...)})
		}
		for _, w := range []impl.World{worldOf(ledAt(0, l...), ledAt(1, l...), line...), worldOf(ledAt(0, l[:6]...), ledAt(1, l[5:]...), line...), worldOf(ledAt(0, l...), regionOf(1, 0), line[:19]...)} {
			holdWorld(t, w)
			for _, s := range []impl.WorldStep{{Kind: impl.DoHear, K: len(w.Line) - 1}, {Kind: impl.DoTwice}, {Kind: impl.DoSay}, {Kind: impl.DoReapply}, {Kind: impl.DoCall, What: impl.EvSignal, Name: "new"}} {
				holdWorldStep(t, w, s)
			}
		}
	}
	// As many signals as can be are lost, and come where they may.
	l := rowsOfSignals(11)
	for _, length := range []int{1, 31, 50, 60} {
		current := wentOnUpTo(historyOf(11, impl.EvStart, ""), 11, length)
		settled, rounds := holdSettled(t, worldOf(regionOf(0, 11, l[:5]...), regionOf(1, 11, append(slices.Clone(l[5:]), current)...)))
		s, ok := impl.StateOf(settled.Regions[0])
		if came := min(30, 60-length); !ok || len(s.Signals) != came || (rounds == 3) != (came > 0) {
			t.Errorf("%d events: %d rounds, %q", length, rounds, s.Signals)
		}
	}
}

func TestNamedParts(t *testing.T) {
	l := historyOf(3, impl.EvStart, "m", 3, impl.EvSignal, "m", 5, impl.EvTaskDone, "m", 5, impl.EvTaskDone, "m")
	other := func(place int, change func(e *impl.Event)) []impl.Event {
		row := slices.Clone(l)
		change(&row[place])
		// What is behind it may not fall below it.
		for i := place + 1; i < len(row); i++ {
			row[i].Version = max(row[i].Version, row[place].Version)
		}
		return row
	}
	for length := range len(l) + 1 {
		// The same ones, and a beginning of the other.
		holdPart(t, l[:length], slices.Clone(l[:length]), length)
		holdPart(t, l[:length], l, length)
		holdPart(t, l[:length], wentOnUpTo(l, 9, 60), length)
		holdPart(t, l[:length], nil, 0)
		holdPart(t, l[:length], []impl.Event{}, 0)
	}
	// They part at each event, by Version, Kind and Name, though all behind it may be the same again.
	for place := range l {
		holdPart(t, l, other(place, func(e *impl.Event) { e.Version++ }), place)
		holdPart(t, l, other(place, func(e *impl.Event) { e.Name = "n" }), place)
		holdPart(t, l[:place+1], other(place, func(e *impl.Event) { e.Name = "" }), place)
		if place > 0 {
			holdPart(t, l, other(place, func(e *impl.Event) { e.Kind = impl.EvTimer }), place)
		}
	}
	long := wentOnUpTo(l, 9, 60)
	holdPart(t, long, slices.Clone(long), 60)
	holdPart(t, long, wentOn(long[:59], 9, impl.EvClose, ""), 59)
	holdPart(t, long, historyOf(0, impl.EvStart, "m"), 0)
}

func TestPartsOfEveryTwoHistories(t *testing.T) {
	all := append(everyHistory(3, []int{0, 1}, []int{impl.EvStart, impl.EvSignal, impl.EvTaskDone, impl.EvClose}, []string{"", "a"}), nil)
	for _, a := range all {
		for _, b := range all {
			if part, ok := impl.PartAt(a, b); !ok || part != partByWords(a, b) {
				t.Fatalf("PartAt %v, %v: %d, %v", a, b, part, ok)
			}
		}
	}
}

func TestPartsOfNoHistories(t *testing.T) {
	good := historyOf(5, impl.EvStart, "", 5, impl.EvSignal, "a", 6, impl.EvTaskDone, "")
	refused := 0
	for _, no := range noTellings() {
		// No events are a history, too, though none that a branch has.
		if len(no) == 0 {
			continue
		}
		refused++
		for _, l := range [][]impl.Event{nil, {}, good, good[:1], wentOnUpTo(good, 6, 60), no, slices.Clone(no)} {
			holdPartRefused(t, no, l)
		}
	}
	if refused < 40 {
		t.Error(refused)
	}
}

func TestPlaysUpToTheLimit(t *testing.T) {
	for _, l := range [][]impl.WorldStep{nil, {}} {
		w, codes, ok := impl.PlayWorld(l)
		if !ok || len(codes) != 0 || !sameWorlds(w, newWorldByWords()) {
			t.Errorf("%v, %v, %v", w, codes, ok)
		}
	}
	for _, count := range []int{1, 20, 60, 61, 119, 120, 121, 122, 1000} {
		// Calls, then one that is too many; what is said, till there is no room; and what is not done at all.
		var calls, says, none []impl.WorldStep
		for i := range count {
			kind := impl.EvTaskDone
			if i == 0 {
				kind = impl.EvStart
			}
			calls = append(calls, impl.WorldStep{Kind: impl.DoCall, What: kind, Name: "n" + strconv.Itoa(i)})
			says = append(says, impl.WorldStep{Kind: impl.DoSay, Region: i % 2})
			none = append(none, impl.WorldStep{Kind: i%2*8 - i/2, Region: i})
		}
		for _, l := range [][]impl.WorldStep{calls, says, none} {
			holdWorldPlay(t, l)
		}
	}
}

// Steps that are not done tell their codes, and the next ones go on from where the world was.
func TestNamedPlaysOfWorlds(t *testing.T) {
	start := historyOf(0, impl.EvStart, "")
	l := []impl.WorldStep{
		{Kind: impl.DoCall, Region: 1, What: impl.EvStart}, {Kind: impl.DoCall, What: impl.EvSignal, Name: "a"}, {Kind: impl.DoCall, What: impl.EvStart}, {Kind: impl.DoCall, What: 9}, {}, {Kind: 8}, {Kind: impl.DoHear},
		{Kind: impl.DoSay}, {Kind: impl.DoTwice, K: 1}, {Kind: impl.DoTwice}, {Kind: impl.DoHear}, {Kind: impl.DoLead, Region: 1}, {Kind: impl.DoCall, Region: 1, What: impl.EvSignal, Name: "b"}, {Kind: impl.DoCall, Region: 1, What: impl.EvSignal, Name: "b"},
		{Kind: impl.DoCall, What: impl.EvSignal, Name: "a"}, {Kind: impl.DoReapply}, {Kind: impl.DoReapply, Region: 1}, {Kind: impl.DoSay, Region: 1}, {Kind: impl.DoHear, K: 1}, {Kind: impl.DoReapply}, {Kind: impl.DoLead}, {Kind: impl.DoReapply}, {Kind: impl.DoReapply}, {Kind: impl.DoLose, K: 1}, {Kind: impl.DoLose},
	}
	wantCodes := []int{2, 3, 0, 1, 1, 1, 1, 0, 1, 0, 0, 0, 0, 5, 0, 1, 1, 0, 0, 1, 0, 0, 1, 1, 0}
	w, codes, ok := impl.PlayWorld(l)
	a, b := signalledOn(start, 0, "a"), signalledOn(start, 1, "b")
	if want := worldOf(regionOf(0, 10, a, signalledOn(b, 10, "a")), regionOf(1, 1, b)); !ok || !slices.Equal(codes, wantCodes) || !sameWorlds(w, want) {
		t.Errorf("%v, %v, %v, not %v, %v", w, codes, ok, want, wantCodes)
	}
	for length := range l {
		played := holdWorldPlay(t, l[:length])
		holdWorld(t, played)
		holdPartsByItems(t, played)
	}
}

// apartAgain are steps behind which each of two regions that had the same tellings has its own event behind the current history; told tells each of them to the other one, too.
func apartAgain(number int, told bool) []impl.WorldStep {
	name := "n" + strconv.Itoa(number)
	// The one that led and the other one, which leads by a greater Version from now on.
	was, is := number%2, 1-number%2
	l := []impl.WorldStep{{Kind: impl.DoLead, Region: is}, {Kind: impl.DoCall, Region: is, What: impl.EvTaskDone, Name: name}, {Kind: impl.DoCall, Region: was, What: impl.EvTaskDone, Name: name}}
	if told {
		l = append(l, impl.WorldStep{Kind: impl.DoSay}, impl.WorldStep{Kind: impl.DoHear}, impl.WorldStep{Kind: impl.DoSay, Region: 1}, impl.WorldStep{Kind: impl.DoHear})
	}
	return l
}

// Two that part again and again come to as many branches as may be; what is one too many is not heard, and they do not settle.
func TestPlaysThatComeToTooManyBranches(t *testing.T) {
	l := []impl.WorldStep{{Kind: impl.DoCall, What: impl.EvStart}, {Kind: impl.DoSay}, {Kind: impl.DoHear}}
	for number := range 11 {
		l = append(l, apartAgain(number, true)...)
		if w := holdWorldPlay(t, l); len(w.Regions[0].Tellings.Branches) != number+2 || !alikeByWords(w) {
			t.Fatalf("%d: %v", number, w)
		}
	}
	w := holdWorldPlay(t, l)
	holdWorld(t, w)
	holdPartsByItems(t, w)
	l = append(l, apartAgain(11, false)...)
	w = holdWorldPlay(t, l)
	if _, rounds := holdSettled(t, w); rounds != 0 {
		t.Errorf("%v settles in %d", w, rounds)
	}
	more := slices.Concat(l, []impl.WorldStep{{Kind: impl.DoSay, Region: 1}, {Kind: impl.DoSay}, {Kind: impl.DoHear, K: 1}, {Kind: impl.DoHear}, {Kind: impl.DoHear}})
	after, codes, ok := impl.PlayWorld(more)
	if !ok || !slices.Equal(codes[len(l):], []int{0, 0, 2, 2, 1}) || !sameWorlds(after, w) {
		t.Errorf("%v, %v, %v", after, codes, ok)
	}
	holdWorldPlay(t, more)
	holdPartsByItems(t, after)
}

// Each play of few steps, of a start on.
func TestEveryFewPlays(t *testing.T) {
	first := []impl.WorldStep{{Kind: impl.DoCall, What: impl.EvStart}, {Kind: impl.DoSay}, {Kind: impl.DoHear}}
	few := []impl.WorldStep{
		{Kind: impl.DoCall, What: impl.EvSignal, Name: "a"}, {Kind: impl.DoCall, Region: 1, What: impl.EvSignal, Name: "b"}, {Kind: impl.DoLead}, {Kind: impl.DoLead, Region: 1},
		{Kind: impl.DoSay}, {Kind: impl.DoSay, Region: 1}, {Kind: impl.DoHear}, {Kind: impl.DoHear, K: 1}, {Kind: impl.DoTwice}, {Kind: impl.DoReapply}, {Kind: impl.DoReapply, Region: 1},
	}
	var plays [][]impl.WorldStep
	longer := [][]impl.WorldStep{first}
	for range 4 {
		var next [][]impl.WorldStep
		for _, l := range longer {
			for _, s := range few {
				next = append(next, append(slices.Clone(l), s))
			}
		}
		plays, longer = append(plays, longer...), next
	}
	plays = append(plays, longer...)
	if len(plays) < 10000 {
		t.Fatal(len(plays))
	}
	for _, l := range plays {
		w := holdWorldPlay(t, l)
		holdSettled(t, w)
		holdPartsByItems(t, w)
	}
}

func TestManyPlays(t *testing.T) {
	rounds := map[int]int{}
	codes := map[int]int{}
	leaders := map[int]int{}
	for seed := range 200 {
		next := numbersFrom(uint64(107000 + seed))
		count := oneOfNumbers(next, 10, 30, 60, 120)
		var l []impl.WorldStep
		w := newWorldByWords()
		for len(l) < count {
			s := someWorldStep(w, next)
			// Both begin alike, most of the time, as a run begins but once.
			if early := []impl.WorldStep{{Kind: impl.DoCall, What: impl.EvStart}, {Kind: impl.DoSay}, {Kind: impl.DoHear}}; seed%4 > 0 && len(l) < 3 {
				s = early[len(l)]
			}
			var code int
			w, code = holdWorldStep(t, w, s)
			codes[code]++
			l = append(l, s)
		}
		if played := holdWorldPlay(t, l); !sameWorlds(played, w) {
			t.Fatalf("PlayWorld %+v: %v, not %v", l, played, w)
		}
		holdWorld(t, w)
		holdPartsByItems(t, w)
		settled, took := holdSettled(t, w)
		holdPartsByItems(t, settled)
		rounds[took]++
		leaders[len(leadersByWords(w))]++
	}
	for code := range 6 {
		// A history gets full in few of them.
		if codes[code] < 20 && code != impl.CallFull {
			t.Errorf("codes %v", codes)
		}
	}
	if rounds[1] < 10 || rounds[2] < 20 || rounds[3] < 20 || leaders[1] < 20 || leaders[2] < 20 {
		t.Errorf("rounds %v, leaders %v", rounds, leaders)
	}
}

func TestManyWorlds(t *testing.T) {
	codes := map[int]int{}
	rounds := map[int]int{}
	for seed := range 500 {
		next := numbersFrom(uint64(108000 + seed))
		w := someWorld(oneOfNumbers(next, 2, 4, 8, 20, 60, 60), oneOfNumbers(next, 4, 8, 20), next)
		holdWorld(t, w)
		_, took := holdSettled(t, w)
		rounds[took]++
		if seed%10 == 0 {
			holdEachWorldStep(t, w)
		}
		for range 20 {
			after, code := holdWorldStep(t, w, someWorldStep(w, next))
			codes[code]++
			if next(3) == 0 {
				w = after
			}
		}
	}
	for code := range 4 {
		if codes[code] < 50 || rounds[code] < 20 {
			t.Errorf("codes %v, rounds %v", codes, rounds)
		}
	}
}

// One thing in a good world is changed: it is good just where the words say so.
func TestWorldsThatAreChanged(t *testing.T) {
	good, bad := 0, 0
	for seed := range 400 {
		next := numbersFrom(uint64(109000 + seed))
		w := copyWorld(someWorld(oneOfNumbers(next, 3, 8), 6, next))
		switch next(7) {
		case 0:
			w.Regions[next(2)].Id += oneOfNumbers(next, -1, 1, 2)
		case 1:
			w.Regions[next(2)].Version += oneOfNumbers(next, -1, -10, 1, 1000000)
		case 2:
			w.Regions[0], w.Regions[1] = w.Regions[1], w.Regions[0]
			if next(2) == 0 {
				w.Regions[0].Id, w.Regions[1].Id = 0, 1
			}
		case 3:
			w.Regions = append(w.Regions, w.Regions[next(2)])[:oneOfNumbers(next, 0, 1, 2, 3)]
		case 4:
			w.Line = append(w.Line, impl.Said{To: oneOfNumbers(next, 0, 1, 0, 1, -1, 2)})
		case 5:
			w.Line = append(w.Line, impl.Said{To: next(2), Word: wordOf(next(4), signalsOf(2, "a"))})
		default:
			if len(w.Line) > 0 {
				place := next(len(w.Line))
				w.Line[place].To = oneOfNumbers(next, 0, 1, -1, 2)
				w.Line[place].Word.Version += oneOfNumbers(next, 0, 0, -1, 1)
			}
		}
		if goodWorldByWords(w) {
			holdWorld(t, w)
			good++
		} else {
			holdWorldIsBad(t, w)
			bad++
		}
	}
	if good < 80 || bad < 80 {
		t.Error(good, bad)
	}
}

// Many who ask at once get what one gets.
func TestWorldsAskedForAtOnce(t *testing.T) {
	var group sync.WaitGroup
	for seed := range 8 {
		next := numbersFrom(uint64(110000 + seed))
		w := someWorld(8, 8, next)
		s := someWorldStep(w, next)
		want, code := stepWorldByWords(w, s)
		settled, rounds, ok := settleByWords(w)
		group.Go(func() {
			for range 30 {
				if after, got := impl.StepWorld(w, s); got != code || !sameWorlds(after, want) {
					t.Errorf("StepWorld %v, %+v: %v, %d", w, s, after, got)
				}
				if after, took, fine := impl.SettleWorld(w); fine != ok || ok && took != rounds || !sameWorlds(after, settled) {
					t.Errorf("SettleWorld %v: %v, %d, %v", w, after, took, fine)
				}
			}
		})
	}
	group.Wait()
}
