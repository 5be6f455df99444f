package tests

import (
	"slices"

	"loop.example/g00269/impl"
)

// What the document's words say of items, by the Versions of all their events written out.

func goodItemsByWords(l []impl.Item) bool {
	for i, it := range l {
		if it.Upto < 1 || it.Upto > 1000 || it.Version < 0 || it.Version > 1000000 {
			return false
		}
		if i > 0 && (it.Upto <= l[i-1].Upto || it.Version <= l[i-1].Version) {
			return false
		}
	}
	return len(l) <= 20
}

// toldVersions takes good items; it writes out the Version of each event, that with the Id 1 first.
func toldVersions(l []impl.Item) []int {
	var versions []int
	for _, it := range l {
		for len(versions) < it.Upto {
			versions = append(versions, it.Version)
		}
	}
	return versions
}

// itemsByWords takes Versions that do not fall.
func itemsByWords(versions []int) []impl.Item {
	var l []impl.Item
	for i, version := range versions {
		if i+1 == len(versions) || versions[i+1] != version {
			l = append(l, impl.Item{Upto: i + 1, Version: version})
		}
	}
	return l
}

func appendByWords(versions []int, id int, version int) ([]impl.Item, bool) {
	if id != len(versions)+1 || len(versions) > 0 && version < versions[len(versions)-1] {
		return nil, false
	}
	l := itemsByWords(append(slices.Clone(versions), version))
	if !goodItemsByWords(l) {
		return nil, false
	}
	return l, true
}

func lcaByWords(a []int, b []int) (impl.Item, bool) {
	var last impl.Item
	for id := 1; id <= len(a) && id <= len(b); id++ {
		if a[id-1] == b[id-1] && slices.Equal(a[:id-1], b[:id-1]) {
			last = impl.Item{Upto: id, Version: a[id-1]}
		}
	}
	return last, last.Upto != 0
}

func beginsByWords(a []int, b []int) bool {
	for i := range a {
		if i >= len(b) || a[i] != b[i] {
			return false
		}
	}
	return true
}

func newerByWords(a []int, b []int) (int, bool) {
	if len(a) == 0 || len(b) == 0 {
		return 0, false
	}
	if a[len(a)-1] > b[len(b)-1] {
		return 1, true
	}
	if b[len(b)-1] > a[len(a)-1] {
		return 2, true
	}
	return 0, true
}

func goodEventByWords(e impl.Event) bool {
	for _, c := range []byte(e.Name) {
		if !(c >= 'a' && c <= 'z' || c >= '0' && c <= '9') {
			return false
		}
	}
	return e.Id >= 1 && e.Id <= 1000 && e.Version >= 0 && e.Version <= 1000000 && e.Kind >= 1 && e.Kind <= 6 && len(e.Name) <= 12
}

// goodRowByWords tells whether events have items: good ones, one by one, in few enough Versions that do not fall.
func goodRowByWords(l []impl.Event) bool {
	for i, e := range l {
		if !goodEventByWords(e) || e.Id != i+1 || i > 0 && e.Version < l[i-1].Version {
			return false
		}
	}
	return len(l) <= 60 && len(itemsByWords(versionsOf(l))) <= 20
}

func versionsOf(l []impl.Event) []int {
	var versions []int
	for _, e := range l {
		versions = append(versions, e.Version)
	}
	return versions
}

// eventsOf makes a row of events of all kinds, with Ids from 1 on, of these Versions.
func eventsOf(versions []int) []impl.Event {
	var l []impl.Event
	for i, version := range versions {
		l = append(l, impl.Event{Id: i + 1, Version: version, Kind: i%impl.EvClose + 1, Name: longestName[:i%13]})
	}
	return l
}

// itemList makes items of rows of an Upto and a Version.
func itemList(rows ...[2]int) []impl.Item {
	var l []impl.Item
	for _, row := range rows {
		l = append(l, impl.Item{Upto: row[0], Version: row[1]})
	}
	return l
}

// stairs makes so many items, each so many events and Versions beyond the one ahead.
func stairs(count int, long int, high int) []impl.Item {
	var l []impl.Item
	for i := range count {
		l = append(l, impl.Item{Upto: (i + 1) * long, Version: (i + 1) * high})
	}
	return l
}

// everyVersions tells all rows of up to so many Versions below a bound that do not fall.
func everyVersions(most int, below int, use func(versions []int)) {
	var grow func(versions []int, least int)
	grow = func(versions []int, least int) {
		use(versions)
		if len(versions) == most {
			return
		}
		for version := least; version < below; version++ {
			grow(append(slices.Clone(versions), version), version)
		}
	}
	grow(nil, 0)
}

// everyItemList tells all lists of so many items with numbers out of two lists, good or not.
func everyItemList(count int, uptos []int, versions []int, use func(l []impl.Item)) {
	l := make([]impl.Item, count)
	var fill func(from int)
	fill = func(from int) {
		if from == count {
			use(l)
			return
		}
		for _, upto := range uptos {
			for _, version := range versions {
				l[from] = impl.Item{Upto: upto, Version: version}
				fill(from + 1)
			}
		}
	}
	fill(0)
}

// risingNumbers draws so many numbers in least..most, none twice, of which there must be enough.
func risingNumbers(count int, least int, most int, next func(below int) int) []int {
	drawn := map[int]bool{}
	for len(drawn) < count {
		drawn[least+next(most-least+1)] = true
	}
	var l []int
	for n := range drawn {
		l = append(l, n)
	}
	slices.Sort(l)
	return l
}

// someItems draws good items, near each other or far, with bounds met often.
func someItems(count int, next func(below int) int) []impl.Item {
	uptos := risingNumbers(count, 1, max(count, []int{25, 100, 1000}[next(3)]), next)
	versions := risingNumbers(count, 0, []int{25, 1000, 1000000}[next(3)], next)
	if count > 0 && next(3) == 0 {
		uptos[count-1], versions[count-1] = 1000, 1000000
	}
	if count > 0 && next(3) == 0 {
		versions[0] = 0
	}
	var l []impl.Item
	for i := range count {
		l = append(l, impl.Item{Upto: uptos[i], Version: versions[i]})
	}
	return l
}

// goOnFrom draws what may become of items as up to so many events come.
func goOnFrom(l []impl.Item, events int, next func(below int) int) []impl.Item {
	versions := toldVersions(l)
	for range events {
		version := 0
		if len(versions) > 0 {
			version = versions[len(versions)-1]
		}
		if next(4) == 0 {
			version += 1 + next(3)
		}
		if longer, ok := appendByWords(versions, len(versions)+1, version); ok {
			versions = toldVersions(longer)
		}
	}
	return itemsByWords(versions)
}
