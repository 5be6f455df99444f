package tests

import (
	"slices"

	"loop.example/g00269/impl"
)

// What the document's words say of regions: the codes one by one, and what is told and heard put together of whole lists of histories.

// newestByWords tells the greatest Version of all events of all branches.
func newestByWords(x impl.Tellings) int {
	newest := 0
	for _, b := range x.Branches {
		for _, e := range b.Events {
			newest = max(newest, e.Version)
		}
	}
	return newest
}

func goodWordByWords(w impl.Word) bool {
	return isVersionByWords(w.Version) && goodTellingsByWords(w.Tellings) && newestByWords(w.Tellings) <= w.Version
}

func goodRegionByWords(r impl.Region) bool {
	return r.Id >= 0 && r.Id <= 9 && goodWordByWords(impl.Word{Version: r.Version, Tellings: r.Tellings})
}

// activeByWords takes a good region.
func activeByWords(r impl.Region) bool {
	return regionByWords(r.Version) == r.Id
}

// codeByWords tells the code of a call at a good region: of all that fit the one that is told first.
func codeByWords(r impl.Region, kind int, name string) int {
	current := currentByWords(r.Tellings)
	if kind < 1 || kind > 6 || !goodNameByWords(name) {
		return 1
	}
	if !activeByWords(r) {
		return 2
	}
	if kind == 2 && slices.Contains(signalNames(current), name) {
		return 5
	}
	if !mayByWords(rowMakes(current), kind, name) {
		return 3
	}
	if len(current) == 60 {
		return 4
	}
	return 0
}

// takeByWords takes a good region.
func takeByWords(r impl.Region, kind int, name string) (impl.Region, int) {
	code := codeByWords(r, kind, name)
	if code == 0 {
		longer := wentOn(currentByWords(r.Tellings), r.Version, kind, name)
		r.Tellings = togetherByWords(rowsIn(r.Tellings), [][]impl.Event{longer})
	}
	return r, code
}

// leadByWords takes a good region.
func leadByWords(r impl.Region) (impl.Region, bool) {
	next, ok := nextVersionByWords(r.Version, r.Id)
	if !ok {
		return impl.Region{}, false
	}
	r.Version = next
	return r, true
}

// hearByWords takes a good region and a word that is good as a region's.
func hearByWords(r impl.Region, w impl.Word) (impl.Region, bool) {
	together := togetherByWords(rowsIn(r.Tellings), rowsIn(w.Tellings))
	if len(together.Branches) > 12 {
		return impl.Region{}, false
	}
	return impl.Region{Id: r.Id, Version: max(r.Version, w.Version), Tellings: together}, true
}

// reapplyByWords takes a good region; it tells the codes of all calls, too.
func reapplyByWords(r impl.Region) (impl.Region, []int) {
	var codes []int
	for _, name := range lostByWords(r.Tellings) {
		var code int
		r, code = takeByWords(r, impl.EvSignal, name)
		codes = append(codes, code)
	}
	return r, codes
}

func wordByWords(r impl.Region) impl.Word {
	return impl.Word{Version: r.Version, Tellings: r.Tellings}
}

func regionOf(id int, version int, l ...[]impl.Event) impl.Region {
	return impl.Region{Id: id, Version: version, Tellings: tellingsOf(l...)}
}

func wordOf(version int, l ...[]impl.Event) impl.Word {
	return impl.Word{Version: version, Tellings: tellingsOf(l...)}
}

func copyRegion(r impl.Region) impl.Region {
	r.Tellings = copyTellings(r.Tellings)
	return r
}

func copyWord(w impl.Word) impl.Word {
	w.Tellings = copyTellings(w.Tellings)
	return w
}

func sameRegions(a impl.Region, b impl.Region) bool {
	return a.Id == b.Id && a.Version == b.Version && sameTellings(a.Tellings, b.Tellings)
}

func sameWords(a impl.Word, b impl.Word) bool {
	return a.Version == b.Version && sameTellings(a.Tellings, b.Tellings)
}

func isZeroRegion(r impl.Region) bool {
	return sameRegions(r, impl.Region{})
}

func isZeroWord(w impl.Word) bool {
	return sameWords(w, impl.Word{})
}

// ledAt makes the region with these branches that leads at the least Version from the greatest of their events on that tells its Id.
func ledAt(id int, l ...[]impl.Event) impl.Region {
	version := newestByWords(tellingsOf(l...))
	for regionByWords(version) != id {
		version++
	}
	return regionOf(id, version, l...)
}

// someRegion draws a good region that is mostly active; its Version is often one of an event.
func someRegion(count int, most int, next func(below int) int) impl.Region {
	r := impl.Region{Tellings: someTellings(count, most, next)}
	r.Version = newestByWords(r.Tellings) + oneOfNumbers(next, 0, 0, 0, 1, 9, 10, next(100))
	r.Id = oneOfNumbers(next, regionByWords(r.Version), regionByWords(r.Version), regionByWords(r.Version), next(10))
	return r
}

// goneOn makes the current history of a good region go on up to so many events, where it may.
func goneOn(r impl.Region, count int) impl.Region {
	longer := wentOnUpTo(currentByWords(r.Tellings), r.Version, count)
	if isTellingByWords(longer) {
		r.Tellings = togetherByWords(rowsIn(r.Tellings), [][]impl.Event{longer})
	}
	return r
}

// someCall draws a kind and a name, mostly of a good event; many of the names are those of signals that the tellings have.
func someCall(x impl.Tellings, next func(below int) int) (int, string) {
	kind := oneOfNumbers(next, impl.EvSignal, impl.EvSignal, impl.EvSignal, impl.EvStart, impl.EvTaskDone, impl.EvTimer, impl.EvCancel, next(9))
	names := append(namesUpTo(4), "a", "b", "c", nameAt(next(45)), nameAt(next(45)), nameAt(next(45)))
	for _, b := range x.Branches {
		names = append(names, signalNames(b.Events)...)
	}
	if next(20) == 0 {
		return kind, noNames[next(len(noNames))]
	}
	return kind, names[next(len(names))]
}
