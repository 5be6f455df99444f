package tests

import (
	"slices"
	"testing"

	"loop.example/g00269/impl"
)

// What is told of a region, a word and the name of a call; what is refused is asked, too.
type toldOfRegion struct {
	tellings []impl.Tellings
	states   []impl.State
	numbers  []int
}

func (told *toldOfRegion) addRegion(r impl.Region, more ...int) {
	told.tellings = append(told.tellings, r.Tellings)
	told.numbers = append(append(told.numbers, r.Id, r.Version), more...)
}

func tellRegion(r impl.Region, w impl.Word, name string) toldOfRegion {
	var told toldOfRegion
	is := map[bool]int{false: 0, true: 1}
	for kind := impl.EvStart - 1; kind <= impl.EvClose+1; kind++ {
		after, code := impl.TakeCall(r, kind, name)
		told.addRegion(after, code)
	}
	led, ok := impl.TakeLead(r)
	told.addRegion(led, is[ok])
	// Once more it leads at a Version of its own, so that each region is one that takes calls, too.
	for kind := impl.EvStart; kind <= impl.EvTaskDone; kind++ {
		after, code := impl.TakeCall(led, kind, name)
		told.addRegion(after, code)
	}
	for _, asked := range []impl.Region{r, led} {
		heard, ok := impl.HearWord(asked, w)
		told.addRegion(heard, is[ok])
		after, count, ok := impl.Reapply(asked)
		told.addRegion(after, count, is[ok])
	}
	word, ok := impl.WordOf(r)
	told.tellings, told.numbers = append(told.tellings, word.Tellings), append(told.numbers, word.Version, is[ok])
	s, ok := impl.StateOf(r)
	told.states, told.numbers = append(told.states, s), append(told.numbers, is[ok])
	active, ok := impl.IsActive(r)
	told.numbers = append(told.numbers, is[active], is[ok], is[impl.GoodRegion(r)])
	return told
}

func sameToldOfRegion(a toldOfRegion, b toldOfRegion) bool {
	return slices.EqualFunc(a.tellings, b.tellings, sameTellings) && slices.EqualFunc(a.states, b.states, sameStates) && slices.Equal(a.numbers, b.numbers)
}

// asTold lets what was told of a region be held as what is told of branches is.
func (told toldOfRegion) asTold() toldOfBranches {
	all := toldOfBranches{tellings: told.tellings, numbers: told.numbers}
	for _, s := range told.states {
		all.names = append(all.names, s.Signals, s.Timers)
	}
	return all
}

// holdRegionMemory holds that no argument is changed, nothing behind its lists is read, and no answer shares memory with one or with another answer.
func holdRegionMemory(t *testing.T, r impl.Region, w impl.Word, name string) {
	t.Helper()
	want := tellRegion(copyRegion(r), copyWord(w), name)
	laid, word, call := r, w, freshText(name)
	laid.Tellings, word.Tellings = branchesBehind(freshTellings(r.Tellings)), branchesBehind(freshTellings(w.Tellings))
	keptRegion, keptWord := wholeTellings(laid.Tellings), wholeTellings(word.Tellings)
	given := slices.Concat(namesOfTellings(laid.Tellings), namesOfTellings(word.Tellings), []string{call})
	for range 2 {
		told := tellRegion(laid, word, call)
		if !sameToldOfRegion(told, want) {
			t.Fatalf("%v, %v, %q: what lies behind a list is read, or an answer was kept", r, w, name)
		}
		holdNothingBehindTold(t, told.asTold())
		holdToldApart(t, told.asTold(), given)
		holdListsApart(t, told.asTold(), want.asTold())
		if !sameTellings(wholeTellings(laid.Tellings), keptRegion) || !sameTellings(wholeTellings(word.Tellings), keptWord) {
			t.Fatalf("%v or %v, or what lies behind, is written into", r, w)
		}
	}
	// The answers stay what they are when the arguments are changed.
	told := tellRegion(laid, word, call)
	fillTellings(laid.Tellings)
	fillTellings(word.Tellings)
	if !sameToldOfRegion(told, want) {
		t.Fatalf("%v, %v, %q: an answer lies in the memory of an argument", r, w, name)
	}
}

func TestRegionsAreLeftAlone(t *testing.T) {
	for seed := range 150 {
		next := numbersFrom(uint64(105000 + seed))
		histories := someHistories(3+next(20), oneOfNumbers(next, 3, 6, 12), next)
		a, b := togetherByWords(histories[:len(histories)/2]), togetherByWords(histories[len(histories)/3:])
		r := impl.Region{Version: newestByWords(a) + next(12), Tellings: a}
		r.Id = oneOfNumbers(next, regionByWords(r.Version), next(10))
		w := impl.Word{Version: newestByWords(b) + next(12), Tellings: b}
		_, name := someCall(a, next)
		holdRegionMemory(t, r, w, name)
		holdRegionMemory(t, r, impl.Word{}, "new")
		holdRegionMemory(t, r, wordByWords(r), name)
	}
	holdRegionMemory(t, impl.Region{}, impl.Word{}, "go")
	holdRegionMemory(t, impl.Region{Tellings: impl.Tellings{Branches: []impl.Branch{}}}, impl.Word{Tellings: impl.Tellings{Branches: []impl.Branch{}}}, "")
}

func TestFullRegionsAreLeftAlone(t *testing.T) {
	full := fan(signalsOf(3, "a b"), 12)
	for id := range 3 {
		r := ledAt(id, full...)
		for _, w := range []impl.Word{wordOf(900, full...), wordOf(3, full[0]), wordOf(900, fan(signalsOf(3, "a b"), 13)[12]), wordOf(900, wentOn(full[4], 900, impl.EvSignal, "c"))} {
			for _, name := range []string{"a", "new", longestName, "A"} {
				holdRegionMemory(t, r, w, name)
			}
		}
	}
	for _, x := range fullTellings() {
		holdRegionMemory(t, ledAt(1, rowsIn(x)...), wordOf(1000000, x.Branches[11].Events), "new")
	}
	// One that has much to reapply.
	holdRegionMemory(t, ledAt(0, startedWith(impl.EvSignal, namesUpTo(30)), historyOf(8, impl.EvStart, "", 9, impl.EvTimer, "t")), wordOf(9), "new")
}

func TestBadRegionsAreLeftAlone(t *testing.T) {
	for i, r := range badRegions() {
		if i%2 == 0 {
			holdRegionMemory(t, r, wordOf(3, signalsOf(3, "a")), "b")
		}
	}
	for i, w := range badWords() {
		if i%2 == 0 {
			holdRegionMemory(t, regionOf(3, 1000, signalsOf(3, "a"), signalsOf(3, "b")), w, "c")
		}
	}
}

// A region and a word may lie in one memory, as a word does that is never sent on; nothing is to be seen of it.
func TestRegionsInOneMemory(t *testing.T) {
	branches := tellingsOf(fan(signalsOf(3, "a"), 12)...).Branches
	kept := copyTellings(impl.Tellings{Branches: branches})
	for from := range 12 {
		for to := from; to <= 12; to++ {
			r := impl.Region{Id: 0, Version: 100, Tellings: impl.Tellings{Branches: branches[from:to]}}
			w := impl.Word{Version: 90, Tellings: impl.Tellings{Branches: branches[2:9]}}
			want, told := tellRegion(copyRegion(r), copyWord(w), "new"), tellRegion(r, w, "new")
			if !sameToldOfRegion(told, want) {
				t.Fatalf("%v, %v are answered otherwise where they lie in another memory", r, w)
			}
			holdListsApart(t, told.asTold(), want.asTold())
			if !sameTellings(impl.Tellings{Branches: branches}, kept) {
				t.Fatal("an answer lies in the memory of an argument, or an argument is written into")
			}
		}
	}
	// Histories that are beginnings of one list of events, with a longer one behind them.
	whole := signalsOf(3, "a b c d e f")
	keptWhole := slices.Clone(whole)
	for i := 1; i <= len(whole); i++ {
		for j := 1; j <= len(whole); j++ {
			r, w := regionOf(3, 13, whole[:i]), wordOf(13, whole[:j])
			want, told := tellRegion(copyRegion(r), copyWord(w), "new"), tellRegion(r, w, "new")
			if !sameToldOfRegion(told, want) {
				t.Fatalf("%v, %v are answered otherwise where they lie in another memory", r, w)
			}
			holdListsApart(t, told.asTold(), want.asTold())
			if !slices.Equal(whole, keptWhole) {
				t.Fatal("an answer lies in the memory of an argument, or an argument is written into")
			}
		}
	}
}

// A list ends where its length says, whatever lies behind it.
func TestRegionsBehindTheList(t *testing.T) {
	branches := tellingsOf(fan(signalsOf(3, "a"), 20)...).Branches
	for length := range len(branches) + 1 {
		r := impl.Region{Id: 0, Version: 10, Tellings: impl.Tellings{Branches: branches[:length]}}
		// The events behind the first eight are of greater Versions, and behind the twelfth there are too many.
		if good := impl.GoodRegion(r); good != (length <= 8) {
			t.Errorf("%d branches: %v", length, good)
		}
		if after, code := impl.TakeCall(r, impl.EvTaskDone, ""); length > 0 && length <= 8 && (code != impl.CallOk || len(after.Tellings.Branches) != length) {
			t.Errorf("%d branches: %v, %d", length, after, code)
		}
	}
	row := signalsOf(3, "a b c d")
	kept := slices.Clone(row)
	for length := 1; length <= 4; length++ {
		r := regionOf(3, 3, row[:length])
		if s, ok := impl.StateOf(r); !ok || s.Next != length+1 {
			t.Errorf("%d events: %+v, %v", length, s, ok)
		}
		// The event that is called for lies behind the list already, or another one does.
		for _, name := range []string{row[length].Name, "z"} {
			after, code := impl.TakeCall(r, impl.EvSignal, name)
			if code != impl.CallOk || len(after.Tellings.Branches[0].Events) != length+1 || !slices.Equal(row, kept) {
				t.Errorf("%d events: %v, %d; %v", length, after, code, row)
			}
		}
	}
}
