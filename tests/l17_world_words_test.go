package tests

import (
	"slices"

	"loop.example/g00269/impl"
)

// What the document's words say of two regions: each step on lists that are written anew, and what they settle to told of all histories at once.

func goodWorldByWords(w impl.World) bool {
	if len(w.Regions) != 2 || w.Regions[0].Id != 0 || w.Regions[1].Id != 1 || len(w.Line) > 20 {
		return false
	}
	for _, s := range w.Line {
		if s.To != 0 && s.To != 1 || !goodWordByWords(s.Word) {
			return false
		}
	}
	return goodRegionByWords(w.Regions[0]) && goodRegionByWords(w.Regions[1])
}

// withRegion tells the world with another region in the place of one.
func withRegion(w impl.World, id int, r impl.Region) impl.World {
	w.Regions = slices.Clone(w.Regions)
	w.Regions[id] = r
	return w
}

// withLine tells the world with another line.
func withLine(w impl.World, line ...impl.Said) impl.World {
	w.Line = line
	return w
}

// stepWorldByWords takes a good world.
func stepWorldByWords(w impl.World, s impl.WorldStep) (impl.World, int) {
	isRegion, isWord := s.Region == 0 || s.Region == 1, s.K >= 0 && s.K < len(w.Line)
	room := len(w.Line) < 20
	switch {
	case s.Kind == 1 && isRegion:
		r, code := takeByWords(w.Regions[s.Region], s.What, s.Name)
		return withRegion(w, s.Region, r), code
	case s.Kind == 2 && isRegion:
		if r, ok := leadByWords(w.Regions[s.Region]); ok {
			return withRegion(w, s.Region, r), 0
		}
	case s.Kind == 3 && isRegion && room:
		return withLine(w, append(slices.Clone(w.Line), impl.Said{To: 1 - s.Region, Word: wordByWords(w.Regions[s.Region])})...), 0
	case s.Kind == 4 && isWord:
		left := withLine(w, slices.Concat(w.Line[:s.K], w.Line[s.K+1:])...)
		said := w.Line[s.K]
		if r, ok := hearByWords(w.Regions[said.To], said.Word); ok {
			return withRegion(left, said.To, r), 0
		}
		return left, 2
	case s.Kind == 5 && isWord:
		return withLine(w, slices.Concat(w.Line[:s.K], w.Line[s.K+1:])...), 0
	case s.Kind == 6 && isWord && room:
		return withLine(w, slices.Concat(w.Line, w.Line[s.K:s.K+1])...), 0
	case s.Kind == 7 && isRegion && activeByWords(w.Regions[s.Region]):
		if r, codes := reapplyByWords(w.Regions[s.Region]); slices.Contains(codes, 0) {
			return withRegion(w, s.Region, r), 0
		}
	}
	return w, 1
}

func playWorldByWords(l []impl.WorldStep) (impl.World, []int) {
	w := newWorldByWords()
	var codes []int
	for _, s := range l {
		var code int
		w, code = stepWorldByWords(w, s)
		codes = append(codes, code)
	}
	return w, codes
}

func newWorldByWords() impl.World {
	return worldOf(regionOf(0, 0), regionOf(1, 0))
}

func alikeByWords(w impl.World) bool {
	return w.Regions[0].Version == w.Regions[1].Version && sameTellings(w.Regions[0].Tellings, w.Regions[1].Tellings)
}

// settleByWords takes a good world. It asks nobody to hear anything: both come to all histories of both and the greater Version, then the one that leads, if one does, to what it reapplies, and the other one hears of it.
func settleByWords(w impl.World) (impl.World, int, bool) {
	a, b := w.Regions[0], w.Regions[1]
	all := impl.Region{Version: max(a.Version, b.Version), Tellings: togetherByWords(rowsIn(a.Tellings), rowsIn(b.Tellings))}
	if len(all.Tellings.Branches) > 12 {
		return impl.World{}, 0, false
	}
	// Where nothing is new in the first round it is the last one.
	rounds := 1
	for _, r := range w.Regions {
		if r.Version != all.Version || !sameTellings(r.Tellings, all.Tellings) {
			rounds = 2
		}
	}
	all.Id = all.Version % 10
	if all.Id <= 1 {
		after, codes := reapplyByWords(all)
		if slices.Contains(codes, 0) {
			// It is known to one behind the first round, to both behind the second one.
			rounds = 3
		}
		all = after
	}
	return worldOf(regionOf(0, all.Version, rowsIn(all.Tellings)...), regionOf(1, all.Version, rowsIn(all.Tellings)...)), rounds, true
}

// roundByWords takes a good world; each HearWord is to tell true.
func roundByWords(w impl.World) (impl.World, bool) {
	a, b := w.Regions[0], w.Regions[1]
	b, bHears := hearByWords(b, wordByWords(a))
	if !bHears {
		return w, false
	}
	a, aHears := hearByWords(a, wordByWords(b))
	if !aHears {
		return w, false
	}
	if activeByWords(a) {
		a, _ = reapplyByWords(a)
	}
	if activeByWords(b) {
		b, _ = reapplyByWords(b)
	}
	return worldOf(a, b), true
}

// settleInRounds takes a good world, and tells the same as settleByWords, word by word.
func settleInRounds(w impl.World) (impl.World, int, bool) {
	w = withLine(w)
	for round := 1; round <= 20; round++ {
		after, ok := roundByWords(w)
		if !ok {
			return impl.World{}, 0, false
		}
		if sameWorlds(after, w) {
			return after, round, true
		}
		w = after
	}
	return impl.World{}, 0, false
}

func leadersByWords(w impl.World) []int {
	var ids []int
	for id := range 2 {
		if w.Regions[id].Version%10 == id {
			ids = append(ids, id)
		}
	}
	return ids
}

func worldOf(a impl.Region, b impl.Region, line ...impl.Said) impl.World {
	return impl.World{Regions: []impl.Region{a, b}, Line: line}
}

func saidTo(to int, version int, l ...[]impl.Event) impl.Said {
	return impl.Said{To: to, Word: wordOf(version, l...)}
}

// manySaid tells a line of so many words, no two next to each other alike.
func manySaid(count int) []impl.Said {
	var line []impl.Said
	for number := range count {
		line = append(line, saidTo(number%2, 30+number, signalsOf(3, nameAt(4+number%5))))
	}
	return line
}

func copyWorld(w impl.World) impl.World {
	var other impl.World
	for _, r := range w.Regions {
		other.Regions = append(other.Regions, copyRegion(r))
	}
	for _, s := range w.Line {
		other.Line = append(other.Line, impl.Said{To: s.To, Word: copyWord(s.Word)})
	}
	return other
}

func sameWorlds(a impl.World, b impl.World) bool {
	return slices.EqualFunc(a.Regions, b.Regions, sameRegions) && slices.EqualFunc(a.Line, b.Line, func(one impl.Said, two impl.Said) bool {
		return one.To == two.To && sameWords(one.Word, two.Word)
	})
}

func isZeroWorld(w impl.World) bool {
	return sameWorlds(w, impl.World{})
}

// tellingsIn tells all tellings of a world: those of its regions and those that are said.
func tellingsIn(w impl.World) []impl.Tellings {
	var l []impl.Tellings
	for _, r := range w.Regions {
		l = append(l, r.Tellings)
	}
	for _, s := range w.Line {
		l = append(l, s.Word.Tellings)
	}
	return l
}

// historiesIn tells all histories of a world, those on the line too.
func historiesIn(w impl.World) [][]impl.Event {
	var l [][]impl.Event
	for _, x := range tellingsIn(w) {
		l = append(l, rowsIn(x)...)
	}
	return l
}

// someWorld draws a good world whose histories often begin alike; its regions often lead or know the same, and its line is often empty or full.
func someWorld(count int, most int, next func(below int) int) impl.World {
	histories := someHistories(count, most, next)
	word := func() impl.Word {
		var rows [][]impl.Event
		for range oneOfNumbers(next, next(3), next(12), count) {
			rows = append(rows, histories[next(len(histories))])
		}
		x := togetherByWords(rows)
		x.Branches = x.Branches[:min(12, len(x.Branches))]
		return impl.Word{Version: newestByWords(x) + oneOfNumbers(next, 0, 0, 1, 9, 10, next(100)), Tellings: x}
	}
	var w impl.World
	known := word()
	for id := range 2 {
		if next(4) > 0 {
			known = word()
		}
		r := impl.Region{Id: id, Version: known.Version, Tellings: known.Tellings}
		for next(3) > 0 && r.Version%10 != id {
			r.Version++
		}
		w.Regions = append(w.Regions, r)
	}
	for range oneOfNumbers(next, 0, 0, 1, 2, 3, 19, 20) {
		w.Line = append(w.Line, impl.Said{To: next(2), Word: word()})
	}
	return w
}

// someWorldStep draws a step; most can be done.
func someWorldStep(w impl.World, next func(below int) int) impl.WorldStep {
	s := impl.WorldStep{Kind: oneOfNumbers(next, 1, 1, 1, 1, 2, 3, 3, 4, 4, 4, 5, 6, 7, 7, next(9)), Region: oneOfNumbers(next, 0, 1, 0, 1, 0, 1, next(4)-1)}
	if s.Kind == 1 {
		r := w.Regions[s.Region&1]
		s.What, s.Name = someCall(r.Tellings, next)
		if len(r.Tellings.Branches) == 0 && next(4) > 0 {
			s.What = impl.EvStart
		}
		return s
	}
	s.K = oneOfNumbers(next, 0, 0, next(len(w.Line)+1), len(w.Line)-1, len(w.Line)-1, len(w.Line), -1)
	return s
}
