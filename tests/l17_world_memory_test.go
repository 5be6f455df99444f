package tests

import (
	"math"
	"slices"
	"testing"

	"loop.example/g00269/impl"
)

var wrongRegion = impl.Region{Id: 7, Version: -1, Tellings: impl.Tellings{Branches: []impl.Branch{{}}}}

var wrongSaid = impl.Said{To: -7, Word: impl.Word{Version: math.MaxInt}}

var wrongWorldStep = impl.WorldStep{Kind: impl.DoLead, Region: 1, What: 99, Name: wrongName, K: -1}

// worldBehind makes a world of which each name has memory of its own, and lays wrong things behind each list.
func worldBehind(w impl.World) impl.World {
	var laid impl.World
	for _, r := range w.Regions {
		r.Tellings = branchesBehind(freshTellings(r.Tellings))
		laid.Regions = append(laid.Regions, r)
	}
	for _, s := range w.Line {
		s.Word.Tellings = branchesBehind(freshTellings(s.Word.Tellings))
		laid.Line = append(laid.Line, s)
	}
	laid.Regions = append(laid.Regions, wrongRegion, wrongRegion, wrongRegion)[:len(w.Regions)]
	laid.Line = append(laid.Line, wrongSaid, wrongSaid, wrongSaid)[:len(w.Line)]
	return laid
}

// wholeWorld copies all that lies in the memory of a world, up to each capacity.
func wholeWorld(w impl.World) impl.World {
	var whole impl.World
	for _, r := range w.Regions[:cap(w.Regions)] {
		r.Tellings = wholeTellings(r.Tellings)
		whole.Regions = append(whole.Regions, r)
	}
	for _, s := range w.Line[:cap(w.Line)] {
		s.Word.Tellings = wholeTellings(s.Word.Tellings)
		whole.Line = append(whole.Line, s)
	}
	return whole
}

// fillWorld writes over all that a world has, up to each capacity.
func fillWorld(w impl.World) {
	for _, x := range tellingsIn(w) {
		fillTellings(x)
	}
	regions, line := w.Regions[:cap(w.Regions)], w.Line[:cap(w.Line)]
	for i := range regions {
		regions[i] = wrongRegion
	}
	for i := range line {
		line[i] = wrongSaid
	}
}

func namesOfWorld(w impl.World) []string {
	var names []string
	for _, x := range tellingsIn(w) {
		names = append(names, namesOfTellings(x)...)
	}
	return names
}

func freshWorldSteps(l []impl.WorldStep) []impl.WorldStep {
	l = slices.Clone(l)
	for i := range l {
		l[i].Name = freshText(l[i].Name)
	}
	return l
}

func namesOfWorldSteps(l []impl.WorldStep) []string {
	var names []string
	for _, s := range l {
		names = append(names, s.Name)
	}
	return names
}

// What is told of a world, and of steps; what is refused is asked, too.
type toldOfWorlds struct {
	worlds  []impl.World
	lists   [][]int
	numbers []int
}

// tellSteps tells what each step makes of a world, with nothing but that.
func (told *toldOfWorlds) tellSteps(w impl.World, l []impl.WorldStep) {
	for _, s := range l {
		after, code := impl.StepWorld(w, s)
		told.worlds, told.numbers = append(told.worlds, after), append(told.numbers, code)
	}
}

func tellWorld(w impl.World, l []impl.WorldStep) toldOfWorlds {
	var told toldOfWorlds
	is := map[bool]int{false: 0, true: 1}
	told.tellSteps(w, l)
	settled, rounds, ok := impl.SettleWorld(w)
	told.worlds, told.numbers = append(told.worlds, settled, impl.NewWorld()), append(told.numbers, rounds, is[ok], is[impl.GoodWorld(w)])
	same, ok := impl.SameIn(w)
	ids, fine := impl.LeadersIn(w)
	told.lists, told.numbers = append(told.lists, ids), append(told.numbers, is[same], is[ok], is[fine])
	played, codes, ok := impl.PlayWorld(l)
	told.worlds, told.lists, told.numbers = append(told.worlds, played), append(told.lists, codes), append(told.numbers, is[ok])
	for _, one := range historiesIn(w) {
		for _, two := range historiesIn(w)[:min(3, len(historiesIn(w)))] {
			part, ok := impl.PartAt(one, two)
			told.numbers = append(told.numbers, part, is[ok])
		}
	}
	return told
}

func sameToldOfWorlds(a toldOfWorlds, b toldOfWorlds) bool {
	return slices.EqualFunc(a.worlds, b.worlds, sameWorlds) && slices.EqualFunc(a.lists, b.lists, slices.Equal[[]int]) && slices.Equal(a.numbers, b.numbers)
}

// holdNothingBehindWorld holds that behind the lists of an answer nothing lies.
func holdNothingBehindWorld(t *testing.T, w impl.World) {
	t.Helper()
	for _, r := range w.Regions[len(w.Regions):cap(w.Regions)] {
		if !isZeroRegion(r) {
			t.Fatalf("behind the regions of %v lies %v", w, r)
		}
	}
	for _, s := range w.Line[len(w.Line):cap(w.Line)] {
		if s.To != 0 || !isZeroWord(s.Word) {
			t.Fatalf("behind the line of %v lies %v", w, s)
		}
	}
	holdNothingBehindTold(t, toldOfBranches{tellings: tellingsIn(w)})
}

// holdWorldApart holds that the tellings of an answer share no names with each other, nor with those that were given.
func holdWorldApart(t *testing.T, w impl.World, given []string) {
	t.Helper()
	all := tellingsIn(w)
	holdToldApart(t, toldOfBranches{tellings: all}, given)
	for i, one := range all {
		for _, two := range all[:i] {
			holdNoSharedNames(t, namesOfTellings(one), namesOfTellings(two))
		}
	}
}

// holdWorldsApart writes over the answers one by one, and holds that all others stay.
func holdWorldsApart(t *testing.T, told toldOfWorlds, want toldOfWorlds) {
	t.Helper()
	for i, w := range told.worlds {
		if !sameWorlds(w, want.worlds[i]) {
			t.Fatalf("world %d of the answers shares memory with another one: %v", i, w)
		}
		holdListsApart(t, toldOfBranches{tellings: tellingsIn(w)}, toldOfBranches{tellings: tellingsIn(want.worlds[i])})
		fillWorld(w)
	}
	for i, l := range told.lists {
		if !slices.Equal(l, want.lists[i]) {
			t.Fatalf("list %d of the answers shares memory with another one: %v", i, l)
		}
		for j := range l[:cap(l)] {
			l[:cap(l)][j] = -77
		}
	}
}

func copyToldOfWorlds(told toldOfWorlds) toldOfWorlds {
	other := toldOfWorlds{numbers: slices.Clone(told.numbers)}
	for _, w := range told.worlds {
		other.worlds = append(other.worlds, copyWorld(w))
	}
	for _, l := range told.lists {
		other.lists = append(other.lists, slices.Clone(l))
	}
	return other
}

// holdWorldMemory holds that no argument is changed, nothing behind its lists is read, and no answer shares memory with one or with another answer.
func holdWorldMemory(t *testing.T, w impl.World, steps []impl.WorldStep) {
	t.Helper()
	want := copyToldOfWorlds(tellWorld(copyWorld(w), slices.Clone(steps)))
	laid := worldBehind(w)
	l := append(freshWorldSteps(steps), wrongWorldStep, wrongWorldStep, wrongWorldStep)[:len(steps)]
	keptWorld, keptSteps := wholeWorld(laid), slices.Clone(l[:cap(l)])
	given := append(namesOfWorld(laid), namesOfWorldSteps(l)...)
	for range 2 {
		told := tellWorld(laid, l)
		if !sameToldOfWorlds(told, want) {
			t.Fatalf("%v, %+v: what lies behind a list is read, or an answer was kept", w, steps)
		}
		for _, answered := range told.worlds {
			holdNothingBehindWorld(t, answered)
			holdWorldApart(t, answered, given)
		}
		holdWorldsApart(t, told, want)
		if !sameWorlds(wholeWorld(laid), keptWorld) || !slices.Equal(l[:cap(l)], keptSteps) {
			t.Fatalf("%v or %+v, or what lies behind, is written into", w, steps)
		}
	}
	// The answers stay what they are when the arguments are changed.
	told := tellWorld(laid, l)
	fillWorld(laid)
	for i := range l[:cap(l)] {
		l[:cap(l)][i] = wrongWorldStep
	}
	if !sameToldOfWorlds(told, want) {
		t.Fatalf("%v, %+v: an answer lies in the memory of an argument", w, steps)
	}
}

// fewWorldSteps are steps at a world most of which can be done, one of each kind at least.
func fewWorldSteps(w impl.World) []impl.WorldStep {
	last := len(w.Line) - 1
	l := []impl.WorldStep{{Kind: 8}, {Kind: impl.DoCall, What: impl.EvStart, Name: "go"}, {Kind: impl.DoHear, K: last}, {Kind: impl.DoHear, K: last / 2}, {Kind: impl.DoLose}, {Kind: impl.DoTwice, K: last}, {Kind: impl.DoLose, K: last + 1}}
	for region := range 2 {
		l = append(l, impl.WorldStep{Kind: impl.DoCall, Region: region, What: impl.EvSignal, Name: "new"}, impl.WorldStep{Kind: impl.DoCall, Region: region, What: impl.EvTaskDone, Name: longestName})
		for _, kind := range []int{impl.DoLead, impl.DoSay, impl.DoReapply} {
			l = append(l, impl.WorldStep{Kind: kind, Region: region})
		}
	}
	return l
}

func TestWorldsAreLeftAlone(t *testing.T) {
	for seed := range 60 {
		next := numbersFrom(uint64(111000 + seed))
		w := someWorld(oneOfNumbers(next, 2, 4, 8), oneOfNumbers(next, 3, 6), next)
		w.Line = w.Line[:min(len(w.Line), 4)]
		holdWorldMemory(t, w, fewWorldSteps(w))
	}
	a, b := somePair()
	for _, w := range []impl.World{newWorldByWords(), {Regions: newWorldByWords().Regions, Line: []impl.Said{}}, worldOf(a, b, manySaid(19)...), worldOf(a, b, manySaid(20)...)} {
		holdWorldMemory(t, w, fewWorldSteps(w))
	}
}

func TestFullWorldsAreLeftAlone(t *testing.T) {
	all := fan(signalsOf(3, "a b"), 14)
	for _, w := range []impl.World{
		worldOf(ledAt(0, all[:12]...), ledAt(1, all[1:11]...), saidTo(0, 900, all[12]), saidTo(1, 901, all[5])), worldOf(ledAt(0, all[:12]...), ledAt(1, all[12:]...), saidTo(0, 900, all[:12]...), saidTo(0, 900, all[2:]...)),
		// Much is lost, and comes.
		worldOf(regionOf(0, 9, startedWith(impl.EvSignal, namesUpTo(30))), regionOf(1, 11, historyOf(8, impl.EvStart, "", 9, impl.EvTimer, "t")), saidTo(1, 9, startedWith(impl.EvSignal, namesUpTo(30)))),
		worldOf(regionOf(0, 10, startedWith(impl.EvSignal, namesUpTo(5)), historyOf(8, impl.EvStart, "", 9, impl.EvTimer, "t")), regionOf(1, 0)),
	} {
		holdWorldMemory(t, w, fewWorldSteps(w))
	}
}

func TestBadWorldsAreLeftAlone(t *testing.T) {
	for i, w := range badWorlds() {
		if i%10 == 0 || i < 30 {
			holdWorldMemory(t, w, fewWorldSteps(w)[:8])
		}
	}
}

func TestPlaysAreLeftAlone(t *testing.T) {
	first := []impl.WorldStep{{Kind: impl.DoCall, What: impl.EvStart, Name: "go"}, {Kind: impl.DoSay}, {Kind: impl.DoTwice}, {Kind: impl.DoHear}}
	for seed := range 30 {
		next := numbersFrom(uint64(112000 + seed))
		l, w := slices.Clone(first), newWorldByWords()
		for range oneOfNumbers(next, 0, 5, 15, 25) {
			w, _ = playWorldByWords(l)
			l = append(l, someWorldStep(w, next))
		}
		holdWorldMemory(t, withLine(w, w.Line[:min(len(w.Line), 4)]...), l)
	}
	holdWorldMemory(t, newWorldByWords(), make([]impl.WorldStep, 121))
	holdWorldMemory(t, newWorldByWords(), slices.Repeat(first, 20)[:26])
}

// The lists of a world that is given may lie in one memory, those of its answers do not.
func TestWorldsInOneMemory(t *testing.T) {
	branches := tellingsOf(fan(signalsOf(3, "a"), 12)...).Branches
	kept := copyTellings(impl.Tellings{Branches: branches})
	at := func(from int, to int) impl.Tellings { return impl.Tellings{Branches: branches[from:to]} }
	for from := range 12 {
		for to := from; to <= 12; to += 3 {
			w := worldOf(impl.Region{Version: 100, Tellings: at(from, to)}, impl.Region{Id: 1, Version: 91, Tellings: at(from, 12)}, impl.Said{To: 1, Word: impl.Word{Version: 100, Tellings: at(from, to)}}, impl.Said{Word: impl.Word{Version: 100, Tellings: at(0, to)}})
			l := fewWorldSteps(w)
			want, told := copyToldOfWorlds(tellWorld(copyWorld(w), l)), tellWorld(w, l)
			if !sameToldOfWorlds(told, want) {
				t.Fatalf("%v is answered otherwise where it lies in another memory", w)
			}
			for _, answered := range told.worlds {
				holdWorldApart(t, answered, namesOfWorld(w))
			}
			holdWorldsApart(t, told, want)
			if !sameTellings(impl.Tellings{Branches: branches}, kept) {
				t.Fatal("an answer lies in the memory of an argument, or an argument is written into")
			}
		}
	}
}

// A list ends where its length says, whatever lies behind it.
func TestWorldsBehindTheList(t *testing.T) {
	a, b := somePair()
	regions := []impl.Region{a, b, a, b}
	line := manySaid(30)
	kept := copyWorld(impl.World{Regions: regions, Line: line})
	for count := range 4 {
		for length := range 25 {
			w := impl.World{Regions: regions[:count], Line: line[:length]}
			good := count == 2 && length <= 20
			if impl.GoodWorld(w) != good {
				t.Fatalf("%d regions, %d words: %v", count, length, !good)
			}
			for _, s := range []impl.WorldStep{{Kind: impl.DoSay}, {Kind: impl.DoTwice}, {Kind: impl.DoLose}, {Kind: impl.DoHear}, {Kind: impl.DoHear, K: length}, {Kind: impl.DoTwice, K: length}, {Kind: impl.DoLead, Region: 1}} {
				if good {
					holdWorldStep(t, w, s)
				} else if after, code := impl.StepWorld(w, s); code != 1 || !isZeroWorld(after) {
					t.Fatalf("%d regions, %d words, %+v: %v, %d", count, length, s, after, code)
				}
			}
			if !sameWorlds(impl.World{Regions: regions, Line: line}, kept) {
				t.Fatalf("%d regions, %d words: what lies behind is written into", count, length)
			}
		}
	}
	row := signalsOf(3, "a b c d")
	for one := range len(row) + 1 {
		for two := range len(row) + 1 {
			holdPart(t, row[:one], slices.Clone(row[:two]), min(one, two))
			holdPart(t, row[:one], row[:two], min(one, two))
		}
	}
}
