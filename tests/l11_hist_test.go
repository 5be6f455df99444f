package tests

import (
	"math"
	"slices"
	"sync"
	"testing"

	"loop.example/g00269/impl"
)

// holdItems holds all that is told of good items alone; it tells the Versions of their events.
func holdItems(t *testing.T, l []impl.Item) []int {
	t.Helper()
	if !impl.GoodItems(l) {
		t.Fatalf("GoodItems refuses %v", l)
	}
	versions := toldVersions(l)
	holdLast(t, l, versions)
	for id := 1; id <= len(versions); id++ {
		if version, ok := impl.VersionAt(l, id); !ok || version != versions[id-1] {
			t.Fatalf("VersionAt %v, %d: %d, %v, not %d", l, id, version, ok, versions[id-1])
		}
	}
	for upto := 0; upto <= len(versions); upto++ {
		cut, ok := impl.CutItems(l, upto)
		if want := itemsByWords(versions[:upto]); !ok || !slices.Equal(cut, want) {
			t.Fatalf("CutItems %v, %d: %v, %v, not %v", l, upto, cut, ok, want)
		}
	}
	last := len(versions)
	for _, id := range append([]int{-1, -2, -last - 1, last + 1, last + 2, 1001, 1002}, farNumbers...) {
		holdIdRefused(t, l, id)
		holdUptoRefused(t, l, id)
	}
	// 0 cuts all away, but no event has it.
	holdIdRefused(t, l, 0)
	holdAppends(t, l, versions)
	return versions
}

func holdLast(t *testing.T, l []impl.Item, versions []int) {
	t.Helper()
	upto, version, ok := impl.LastOf(l)
	if len(versions) == 0 {
		if ok || upto != 0 || version != 0 {
			t.Fatalf("LastOf %v: %d, %d, %v", l, upto, version, ok)
		}
		return
	}
	if !ok || upto != len(versions) || version != versions[len(versions)-1] {
		t.Fatalf("LastOf %v: %d, %d, %v", l, upto, version, ok)
	}
}

func holdIdRefused(t *testing.T, l []impl.Item, id int) {
	t.Helper()
	if version, ok := impl.VersionAt(l, id); ok || version != 0 {
		t.Fatalf("VersionAt %v, %d: %d, %v", l, id, version, ok)
	}
}

func holdUptoRefused(t *testing.T, l []impl.Item, upto int) {
	t.Helper()
	if cut, ok := impl.CutItems(l, upto); ok || len(cut) != 0 {
		t.Fatalf("CutItems %v, %d: %v, %v", l, upto, cut, ok)
	}
}

// holdAppends holds what comes of one more event, with its Id and with others, and Versions around all that count.
func holdAppends(t *testing.T, l []impl.Item, versions []int) {
	t.Helper()
	id, last := len(versions)+1, 0
	if len(versions) > 0 {
		last = versions[len(versions)-1]
	}
	for _, version := range append([]int{-1, 0, 1, last - 1, last, last + 1, last + 9, 999999, 1000000, 1000001}, farNumbers...) {
		holdAppend(t, l, versions, id, version)
	}
	for _, wrong := range append([]int{-1, 0, 1, 2, id - 2, id - 1, id, id + 1, id + 2, 999, 1000, 1001, 1002, -id}, farNumbers...) {
		holdAppend(t, l, versions, wrong, last)
		holdAppend(t, l, versions, wrong, last+1)
	}
}

func holdAppend(t *testing.T, l []impl.Item, versions []int, id int, version int) {
	t.Helper()
	want, good := appendByWords(versions, id, version)
	got, ok := impl.AppendItem(l, id, version)
	if ok != good || !slices.Equal(got, want) {
		t.Fatalf("AppendItem %v, %d, %d: %v, %v, not %v, %v", l, id, version, got, ok, want, good)
	}
	if !ok {
		return
	}
	// What was told stays as it was, and the new event has its version.
	if back, ok := impl.CutItems(got, len(versions)); !ok || !slices.Equal(back, l) {
		t.Fatalf("CutItems %v, %d: %v, %v, not %v again", got, len(versions), back, ok, l)
	}
	if last, ok := impl.VersionAt(got, id); !ok || last != version {
		t.Fatalf("VersionAt %v, %d: %d, %v", got, id, last, ok)
	}
}

// holdTellings holds all that is told of two good tellings, both ways.
func holdTellings(t *testing.T, a []impl.Item, b []impl.Item) impl.Item {
	t.Helper()
	one, two := toldVersions(a), toldVersions(b)
	want, there := lcaByWords(one, two)
	got, ok := impl.LcaOf(a, b)
	if got != want || ok != there {
		t.Fatalf("LcaOf %v, %v: %v, %v, not %v, %v", a, b, got, ok, want, there)
	}
	if back, ok := impl.LcaOf(b, a); back != want || ok != there {
		t.Fatalf("LcaOf %v, %v: %v, %v, and the other way round %v, %v", b, a, back, ok, want, there)
	}
	holdParting(t, a, b, got.Upto)
	holdAhead(t, a, b, beginsByWords(one, two))
	holdAhead(t, b, a, beginsByWords(two, one))
	holdNewer(t, a, b)
	holdNewer(t, b, a)
	return got
}

// holdParting holds promise 11: up to their last common event two tellings are one, and the next one they do not have in common.
func holdParting(t *testing.T, a []impl.Item, b []impl.Item, upto int) {
	t.Helper()
	one, fine := impl.CutItems(a, upto)
	two, also := impl.CutItems(b, upto)
	if !fine || !also || !slices.Equal(one, two) {
		t.Fatalf("%v and %v, cut at %d: %v, %v and %v, %v", a, b, upto, one, fine, two, also)
	}
	v, fine := impl.VersionAt(a, upto+1)
	w, also := impl.VersionAt(b, upto+1)
	if fine && also && v == w {
		t.Fatalf("%v and %v have %d behind %d in common", a, b, v, upto)
	}
}

func holdAhead(t *testing.T, a []impl.Item, b []impl.Item, want bool) {
	t.Helper()
	if ahead, ok := impl.IsAhead(a, b); !ok || ahead != want {
		t.Fatalf("IsAhead %v, %v: %v, %v, not %v", a, b, ahead, ok, want)
	}
	// Just where b, cut at the last one of a, is a.
	upto, _, _ := impl.LastOf(a)
	if cut, ok := impl.CutItems(b, upto); (ok && slices.Equal(cut, a)) != want {
		t.Fatalf("%v, cut at %d: %v, %v, but IsAhead of %v tells %v", b, upto, cut, ok, a, want)
	}
}

func holdNewer(t *testing.T, a []impl.Item, b []impl.Item) {
	t.Helper()
	want, there := newerByWords(toldVersions(a), toldVersions(b))
	if newer, ok := impl.NewerOf(a, b); newer != want || ok != there {
		t.Fatalf("NewerOf %v, %v: %d, %v, not %d, %v", a, b, newer, ok, want, there)
	}
}

// holdItemsRefused holds the zero answer of each function where items are not good, on either side.
func holdItemsRefused(t *testing.T, l []impl.Item) {
	t.Helper()
	if impl.GoodItems(l) {
		t.Fatalf("GoodItems takes %v", l)
	}
	if upto, version, ok := impl.LastOf(l); ok || upto != 0 || version != 0 {
		t.Fatalf("LastOf %v: %d, %d, %v", l, upto, version, ok)
	}
	ids := []int{math.MinInt, -1, 0, 1, 2, 1000, 1001, math.MaxInt}
	for _, it := range l {
		ids = append(ids, it.Upto, it.Upto+1)
	}
	for _, id := range ids {
		holdIdRefused(t, l, id)
		holdUptoRefused(t, l, id)
		for _, version := range []int{math.MinInt, 0, 1000000, math.MaxInt, l[len(l)-1].Version, l[len(l)-1].Version + 1} {
			if longer, ok := impl.AppendItem(l, id, version); ok || len(longer) != 0 {
				t.Fatalf("AppendItem %v, %d, %d: %v, %v", l, id, version, longer, ok)
			}
		}
	}
	for _, other := range [][]impl.Item{nil, itemList([2]int{1, 0}), itemList([2]int{3, 0}, [2]int{5, 10}), stairs(20, 50, 50000), l[:1], l} {
		holdTellingsRefused(t, l, other)
		holdTellingsRefused(t, other, l)
	}
}

func holdTellingsRefused(t *testing.T, a []impl.Item, b []impl.Item) {
	t.Helper()
	if lca, ok := impl.LcaOf(a, b); ok || lca != (impl.Item{}) {
		t.Fatalf("LcaOf %v, %v: %v, %v", a, b, lca, ok)
	}
	if ahead, ok := impl.IsAhead(a, b); ok || ahead {
		t.Fatalf("IsAhead %v, %v: %v, %v", a, b, ahead, ok)
	}
	if newer, ok := impl.NewerOf(a, b); ok || newer != 0 {
		t.Fatalf("NewerOf %v, %v: %d, %v", a, b, newer, ok)
	}
}

// holdEitherItems holds items by whether the words call them good; it tells that.
func holdEitherItems(t *testing.T, l []impl.Item) bool {
	t.Helper()
	if goodItemsByWords(l) {
		holdItems(t, l)
		return true
	}
	holdItemsRefused(t, l)
	return false
}

// holdEvents holds promise 11 of a row of events: its items tell the Version of each.
func holdEvents(t *testing.T, l []impl.Event) []impl.Item {
	t.Helper()
	items, ok := impl.ItemsOf(l)
	if want := itemsByWords(versionsOf(l)); !ok || !slices.Equal(items, want) {
		t.Fatalf("ItemsOf %v: %v, %v, not %v", l, items, ok, want)
	}
	if !impl.GoodItems(items) {
		t.Fatalf("ItemsOf %v: %v are not good", l, items)
	}
	var grown []impl.Item
	for i, e := range l {
		if version, ok := impl.VersionAt(items, e.Id); !ok || version != e.Version {
			t.Fatalf("VersionAt %v, %d: %d, %v, not %d", items, e.Id, version, ok, e.Version)
		}
		if grown, ok = impl.AppendItem(grown, e.Id, e.Version); !ok {
			t.Fatalf("event %d of %v is not appended", i, l)
		}
		// The first events alone have the first items.
		if first, ok := impl.ItemsOf(l[:i+1]); !ok || !slices.Equal(first, grown) {
			t.Fatalf("ItemsOf %v: %v, %v, not %v", l[:i+1], first, ok, grown)
		}
		if cut, ok := impl.CutItems(items, i+1); !ok || !slices.Equal(cut, grown) {
			t.Fatalf("CutItems %v, %d: %v, %v, not %v", items, i+1, cut, ok, grown)
		}
	}
	holdIdRefused(t, items, len(l)+1)
	return items
}

func holdEventsRefused(t *testing.T, l []impl.Event) {
	t.Helper()
	if items, ok := impl.ItemsOf(l); ok || len(items) != 0 {
		t.Fatalf("ItemsOf %v: %v, %v", l, items, ok)
	}
}

// holdEitherEvents holds events by whether the words give them items; it tells that.
func holdEitherEvents(t *testing.T, l []impl.Event) bool {
	t.Helper()
	if goodRowByWords(l) {
		holdEvents(t, l)
		return true
	}
	holdEventsRefused(t, l)
	return false
}

func TestNamedVersions(t *testing.T) {
	l := itemList([2]int{1, 0}, [2]int{4, 7}, [2]int{9, 10}, [2]int{1000, 1000000})
	holdItems(t, l)
	for _, row := range [][2]int{
		// The first Id, at just an Upto and one behind it, between two, the last Upto.
		{1, 0}, {2, 7}, {3, 7}, {4, 7}, {5, 10}, {9, 10}, {10, 1000000}, {500, 1000000}, {999, 1000000}, {1000, 1000000},
	} {
		if version, ok := impl.VersionAt(l, row[0]); !ok || version != row[1] {
			t.Errorf("VersionAt %v, %d: %d, %v", l, row[0], version, ok)
		}
	}
	for _, id := range []int{0, -1, -4, 1001, 1002, math.MinInt, math.MaxInt} {
		holdIdRefused(t, l, id)
		holdIdRefused(t, nil, id)
	}
	holdIdRefused(t, nil, 1)
	holdIdRefused(t, itemList([2]int{3, 5}), 4)
	if version, ok := impl.VersionAt(itemList([2]int{3, 5}), 3); !ok || version != 5 {
		t.Error(version, ok)
	}
}

func TestLastOf(t *testing.T) {
	for _, l := range [][]impl.Item{
		itemList([2]int{1, 0}), itemList([2]int{1000, 1000000}), itemList([2]int{1000, 0}), itemList([2]int{1, 1000000}),
		itemList([2]int{3, 0}, [2]int{5, 10}), stairs(20, 1, 1), stairs(20, 50, 50000),
	} {
		last := l[len(l)-1]
		if upto, version, ok := impl.LastOf(l); !ok || upto != last.Upto || version != last.Version {
			t.Errorf("LastOf %v: %d, %d, %v", l, upto, version, ok)
		}
	}
	for _, l := range [][]impl.Item{nil, {}, itemList([2]int{0, 0}), itemList([2]int{3, 1}, [2]int{5, 1})} {
		if upto, version, ok := impl.LastOf(l); ok || upto != 0 || version != 0 {
			t.Errorf("LastOf %v: %d, %d, %v", l, upto, version, ok)
		}
	}
}

func TestNamedCuts(t *testing.T) {
	l := itemList([2]int{3, 0}, [2]int{5, 10}, [2]int{9, 21})
	for _, c := range []struct {
		upto int
		want []impl.Item
	}{
		{0, nil},
		{1, itemList([2]int{1, 0})},
		{2, itemList([2]int{2, 0})},
		{3, itemList([2]int{3, 0})},
		{4, itemList([2]int{3, 0}, [2]int{4, 10})},
		{5, itemList([2]int{3, 0}, [2]int{5, 10})},
		{6, itemList([2]int{3, 0}, [2]int{5, 10}, [2]int{6, 21})},
		{8, itemList([2]int{3, 0}, [2]int{5, 10}, [2]int{8, 21})},
		{9, l},
	} {
		if cut, ok := impl.CutItems(l, c.upto); !ok || !slices.Equal(cut, c.want) {
			t.Errorf("CutItems %v, %d: %v, %v", l, c.upto, cut, ok)
		}
	}
	for _, upto := range append([]int{-1, -9, 10, 11, 1000, 1001}, farNumbers...) {
		holdUptoRefused(t, l, upto)
		holdUptoRefused(t, nil, upto)
	}
	// Where there are none, none are cut.
	for _, none := range [][]impl.Item{nil, {}} {
		if cut, ok := impl.CutItems(none, 0); !ok || len(cut) != 0 {
			t.Error(cut, ok)
		}
		holdUptoRefused(t, none, 1)
	}
}

func TestNamedAppends(t *testing.T) {
	l := itemList([2]int{3, 0}, [2]int{5, 10})
	for _, c := range []struct {
		items       []impl.Item
		id, version int
		want        []impl.Item
	}{
		// To no items, to the last one, behind it.
		{nil, 1, 0, itemList([2]int{1, 0})},
		{[]impl.Item{}, 1, 1000000, itemList([2]int{1, 1000000})},
		{l, 6, 10, itemList([2]int{3, 0}, [2]int{6, 10})},
		{l, 6, 11, itemList([2]int{3, 0}, [2]int{5, 10}, [2]int{6, 11})},
		{l, 6, 1000000, itemList([2]int{3, 0}, [2]int{5, 10}, [2]int{6, 1000000})},
		{itemList([2]int{999, 4}), 1000, 4, itemList([2]int{1000, 4})},
		{itemList([2]int{999, 4}), 1000, 5, itemList([2]int{999, 4}, [2]int{1000, 5})},
		// The twentieth item, and an event that makes it longer.
		{stairs(19, 1, 1), 20, 20, stairs(20, 1, 1)},
		{stairs(20, 1, 1), 21, 20, append(stairs(19, 1, 1), impl.Item{Upto: 21, Version: 20})},
	} {
		if longer, ok := impl.AppendItem(c.items, c.id, c.version); !ok || !slices.Equal(longer, c.want) {
			t.Errorf("AppendItem %v, %d, %d: %v, %v", c.items, c.id, c.version, longer, ok)
		}
	}
	for _, c := range []struct {
		items       []impl.Item
		id, version int
	}{
		{nil, 0, 0}, {nil, 2, 0}, {nil, -1, 0}, {nil, 1, -1}, {nil, 1, 1000001},
		// The last Id, two behind it, a lesser one that another item has.
		{l, 5, 10}, {l, 7, 10}, {l, 5, 11}, {l, 7, 11}, {l, 3, 10}, {l, 4, 10}, {l, 1, 0},
		// A version below the last one, also one that an item has.
		{l, 6, 9}, {l, 6, 1}, {l, 6, 0}, {l, 6, -1}, {l, 6, 1000001},
		// Beyond 1000, by the last item and by a new one.
		{itemList([2]int{1000, 4}), 1001, 4}, {itemList([2]int{1000, 4}), 1001, 5}, {itemList([2]int{1000, 4}), 1000, 4},
		// More than MaxItems.
		{stairs(20, 1, 1), 21, 21}, {stairs(20, 50, 5), 1001, 100}, {stairs(20, 1, 1), 21, 1000000},
		// The greatest version has none above it.
		{itemList([2]int{4, 1000000}), 5, 1000001}, {itemList([2]int{4, 1000000}), 5, 999999},
	} {
		if longer, ok := impl.AppendItem(c.items, c.id, c.version); ok || len(longer) != 0 {
			t.Errorf("AppendItem %v, %d, %d: %v, %v", c.items, c.id, c.version, longer, ok)
		}
	}
}

func TestAppendingUpToTheLastId(t *testing.T) {
	for _, every := range []int{1000, 100, 50} {
		l := appendEach(t, 1000, every)
		holdItems(t, l)
		for _, version := range []int{l[len(l)-1].Version, l[len(l)-1].Version + 1} {
			if longer, ok := impl.AppendItem(l, 1001, version); ok || len(longer) != 0 {
				t.Errorf("AppendItem %v, 1001: %v, %v", l, longer, ok)
			}
		}
	}
	// Where each Version has 49 events the twenty-first one comes at 981, and the twentieth may go on in its place.
	l := appendEach(t, 980, 49)
	if longer, ok := impl.AppendItem(l, 981, 20); ok || len(longer) != 0 {
		t.Errorf("AppendItem %v, 981: %v, %v", l, longer, ok)
	}
	if longer, ok := impl.AppendItem(l, 981, 19); !ok || len(longer) != impl.MaxItems {
		t.Errorf("AppendItem %v, 981: %v, %v", l, longer, ok)
	}
}

// appendEach appends so many events one by one, with a new Version behind every so many.
func appendEach(t *testing.T, events int, every int) []impl.Item {
	t.Helper()
	var l []impl.Item
	for id := 1; id <= events; id++ {
		version := (id - 1) / every
		longer, ok := impl.AppendItem(l, id, version)
		if !ok || len(longer) != version+1 || longer[version] != (impl.Item{Upto: id, Version: version}) {
			t.Fatalf("AppendItem %v, %d, %d: %v, %v", l, id, version, longer, ok)
		}
		l = longer
	}
	return l
}

func TestNamedTellings(t *testing.T) {
	l := itemList([2]int{3, 0}, [2]int{5, 10})
	for _, c := range []struct {
		a, b         []impl.Item
		upto, common int
		ahead, back  bool
		newer        int
	}{
		// They part at once.
		{itemList([2]int{3, 0}), itemList([2]int{3, 1}), 0, 0, false, false, 2},
		{itemList([2]int{3, 0}, [2]int{9, 5}), itemList([2]int{3, 1}, [2]int{9, 5}), 0, 0, false, false, 0},
		// In the midst of an item of the one, at the end of one of the other.
		{l, itemList([2]int{4, 0}, [2]int{6, 11}), 3, 0, false, false, 2},
		{l, itemList([2]int{2, 0}, [2]int{6, 10}), 2, 0, false, false, 0},
		// In the midst of a later item.
		{append(l, impl.Item{Upto: 9, Version: 20}), itemList([2]int{3, 0}, [2]int{4, 10}, [2]int{9, 20}), 4, 10, false, false, 0},
		// At the end of one that both have.
		{append(l, impl.Item{Upto: 8, Version: 20}), append(l, impl.Item{Upto: 7, Version: 21}), 5, 10, false, false, 2},
		{append(l, impl.Item{Upto: 8, Version: 22}), append(l, impl.Item{Upto: 9, Version: 21}), 5, 10, false, false, 1},
		// What they come to behind it may be the same again; it counts no more.
		{itemList([2]int{3, 0}, [2]int{4, 5}, [2]int{9, 20}), itemList([2]int{3, 0}, [2]int{4, 6}, [2]int{9, 20}), 3, 0, false, false, 0},
		// Where one ends: at the end of an item of the other, and in its midst.
		{l, append(l, impl.Item{Upto: 6, Version: 11}), 5, 10, true, false, 2},
		{l, itemList([2]int{3, 0}, [2]int{6, 10}), 5, 10, true, false, 0},
		{itemList([2]int{2, 0}), l, 2, 0, true, false, 2},
		{itemList([2]int{3, 0}), l, 3, 0, true, false, 2},
		{itemList([2]int{4, 0}), l, 3, 0, false, false, 2},
		// The same.
		{l, l, 5, 10, true, true, 0},
		{itemList([2]int{1, 0}), itemList([2]int{1, 0}), 1, 0, true, true, 0},
		{itemList([2]int{1000, 1000000}), itemList([2]int{1000, 1000000}), 1000, 1000000, true, true, 0},
		{stairs(20, 50, 50000), stairs(20, 50, 50000), 1000, 1000000, true, true, 0},
		{stairs(20, 50, 50000), stairs(19, 50, 50000), 950, 950000, false, true, 1},
	} {
		if got := holdTellings(t, c.a, c.b); got != (impl.Item{Upto: c.upto, Version: c.common}) {
			t.Errorf("LcaOf %v, %v: %v", c.a, c.b, got)
		}
		holdAhead(t, c.a, c.b, c.ahead)
		holdAhead(t, c.b, c.a, c.back)
		if newer, ok := impl.NewerOf(c.a, c.b); !ok || newer != c.newer {
			t.Errorf("NewerOf %v, %v: %d, %v", c.a, c.b, newer, ok)
		}
	}
}

// Of no items: nothing is in common, nothing is newer, and they are the beginning of all.
func TestEmptyTellings(t *testing.T) {
	for _, none := range [][]impl.Item{nil, {}} {
		holdItems(t, none)
		for _, l := range [][]impl.Item{nil, {}, itemList([2]int{1, 0}), itemList([2]int{1000, 1000000}), stairs(20, 1, 1)} {
			if got := holdTellings(t, none, l); got != (impl.Item{}) {
				t.Errorf("LcaOf %v, %v: %v", none, l, got)
			}
			holdAhead(t, none, l, true)
			holdAhead(t, l, none, len(l) == 0)
			if newer, ok := impl.NewerOf(none, l); ok || newer != 0 {
				t.Errorf("NewerOf %v, %v: %d, %v", none, l, newer, ok)
			}
			if newer, ok := impl.NewerOf(l, none); ok || newer != 0 {
				t.Errorf("NewerOf %v, %v: %d, %v", l, none, newer, ok)
			}
		}
	}
}

// All items of few events and Versions, and each two of them.
func TestEveryTwoTellings(t *testing.T) {
	var all [][]impl.Item
	everyVersions(6, 4, func(versions []int) {
		l := itemsByWords(versions)
		if !slices.Equal(holdItems(t, l), versions) {
			t.Fatalf("%v and %v", l, versions)
		}
		all = append(all, l)
	})
	if len(all) != 210 {
		t.Error(len(all))
	}
	for _, a := range all {
		for _, b := range all {
			holdTellings(t, a, b)
		}
	}
}

func TestManyItems(t *testing.T) {
	for seed := range 150 {
		next := numbersFrom(uint64(71000 + seed))
		holdItems(t, someItems([]int{next(21), impl.MaxItems}[next(2)], next))
	}
	for count := range impl.MaxItems + 1 {
		holdItems(t, stairs(count, 1, 1))
		holdItems(t, stairs(count, 50, 50000))
	}
}

// Tellings that have gone on apart from one beginning, and ones that have nothing to do with each other.
func TestManyTellings(t *testing.T) {
	parted, ahead, none := 0, 0, 0
	for seed := range 1500 {
		next := numbersFrom(uint64(72000 + seed))
		root := goOnFrom(nil, next(60), next)
		if next(4) == 0 {
			root = someItems(next(20), next)
		}
		a, b := goOnFrom(root, next(12), next), goOnFrom(root, next(12), next)
		if next(5) == 0 {
			b = someItems(next(21), next)
		}
		got := holdTellings(t, a, b)
		switch first, _ := impl.IsAhead(a, b); {
		case got.Upto == 0:
			none++
		case first:
			ahead++
		default:
			parted++
		}
	}
	if parted < 200 || ahead < 100 || none < 100 {
		t.Error(parted, ahead, none)
	}
}

// Two tellings of one beginning have at least that in common.
func TestTellingsFromOneBeginning(t *testing.T) {
	for seed := range 300 {
		next := numbersFrom(uint64(73000 + seed))
		root := goOnFrom(nil, 1+next(40), next)
		upto, version, ok := impl.LastOf(root)
		if !ok || len(root) == impl.MaxItems || version > 999990 {
			continue
		}
		a, fine := impl.AppendItem(root, upto+1, version+1)
		b, also := impl.AppendItem(root, upto+1, version+2)
		if !fine || !also {
			t.Fatalf("AppendItem %v: %v, %v", root, fine, also)
		}
		a, b = goOnFrom(a, next(20), next), goOnFrom(b, next(20), next)
		if got := holdTellings(t, a, b); got != (impl.Item{Upto: upto, Version: version}) {
			t.Fatalf("LcaOf %v, %v: %v, but they part behind %v", a, b, got, root)
		}
		holdAhead(t, root, a, true)
		holdAhead(t, root, b, true)
	}
}

// All lists of few items, good or not, near the least numbers and near the greatest ones.
func TestEveryItemList(t *testing.T) {
	good, bad := 0, 0
	hold := func(l []impl.Item) {
		if holdEitherItems(t, l) {
			good++
		} else {
			bad++
		}
	}
	for count := range 4 {
		everyItemList(count, []int{0, 1, 2, 3}, []int{-1, 0, 1, 2}, hold)
	}
	for count := 1; count <= 2; count++ {
		everyItemList(count, []int{math.MinInt, -1, 0, 1, 999, 1000, 1001, math.MaxInt}, []int{math.MinInt, -1, 0, 999999, 1000000, 1000001, math.MaxInt}, hold)
	}
	if good < 20 || bad < 5000 {
		t.Error(good, bad)
	}
}

func TestEdgesOfItems(t *testing.T) {
	for _, upto := range []int{1, 2, 999, 1000} {
		for _, version := range []int{0, 1, 999999, 1000000} {
			holdItems(t, itemList([2]int{upto, version}))
		}
	}
	for _, upto := range append([]int{0, -1, 1001, 1002}, farNumbers...) {
		holdItemsRefused(t, itemList([2]int{upto, 0}))
		holdItemsRefused(t, itemList([2]int{upto, 1000000}))
	}
	for _, version := range append([]int{-1, -2, 1000001, 1000002}, farNumbers...) {
		holdItemsRefused(t, itemList([2]int{1, version}))
		holdItemsRefused(t, itemList([2]int{1000, version}))
	}
	// As many as may be, from the least numbers on and up to the greatest ones.
	most := itemList()
	for i := range impl.MaxItems {
		most = append(most, impl.Item{Upto: 981 + i, Version: 999981 + i})
	}
	least := itemList()
	for i := range impl.MaxItems {
		least = append(least, impl.Item{Upto: 1 + i, Version: i})
	}
	holdItems(t, most)
	holdItems(t, least)
	holdTellings(t, most, least)
}

// badItems have one thing that is not as said.
func badItems() [][]impl.Item {
	bad := [][]impl.Item{
		// Too many, each of them as said.
		stairs(21, 1, 1), stairs(22, 1, 1), stairs(100, 10, 10), stairs(21, 40, 40000),
		// Uptos that are the same, and that fall.
		itemList([2]int{3, 0}, [2]int{3, 1}), itemList([2]int{3, 0}, [2]int{2, 1}), itemList([2]int{1, 0}, [2]int{5, 1}, [2]int{4, 2}),
		// Versions that are the same, and that fall.
		itemList([2]int{3, 4}, [2]int{5, 4}), itemList([2]int{3, 4}, [2]int{5, 3}), itemList([2]int{1, 0}, [2]int{2, 0}),
		itemList([2]int{1, 5}, [2]int{2, 9}, [2]int{3, 5}), itemList([2]int{1, 5}, [2]int{2, 9}, [2]int{3, 8}),
		itemList([2]int{0, 0}), itemList([2]int{1001, 0}), itemList([2]int{1, -1}), itemList([2]int{1, 1000001}),
		itemList([2]int{0, 0}, [2]int{1, 1}), itemList([2]int{1000, 0}, [2]int{1001, 1}), itemList([2]int{1, -1}, [2]int{2, 0}),
	}
	for place := range impl.MaxItems {
		good := stairs(impl.MaxItems, 10, 10)
		for _, n := range append([]int{0, -1, good[place].Upto - 10, good[place].Upto + 10, 1001, 1000001}, farNumbers...) {
			if n > 0 && n <= 1000 && (place == 0 && n < 20 || place == 19 && n > 190) {
				continue
			}
			l := slices.Clone(good)
			l[place].Upto = n
			bad = append(bad, l)
		}
		for _, n := range append([]int{-1, -10, good[place].Version - 10, good[place].Version + 10, 1000001}, farNumbers...) {
			if n >= 0 && n <= 1000000 && (place == 0 && n < 20 || place == 19 && n > 190) {
				continue
			}
			l := slices.Clone(good)
			l[place].Version = n
			bad = append(bad, l)
		}
	}
	return bad
}

func TestBadItems(t *testing.T) {
	for _, l := range badItems() {
		if goodItemsByWords(l) {
			t.Fatalf("%v is to be bad", l)
		}
		holdItemsRefused(t, l)
	}
}

func TestItemsThatAreChanged(t *testing.T) {
	good, bad := 0, 0
	for seed := range 600 {
		next := numbersFrom(uint64(74000 + seed))
		l := stairs(1+next(20), 1+next(4), 1+next(4))
		it := &l[next(len(l))]
		if next(2) == 0 {
			it.Upto += next(9) - 4
		} else {
			it.Version += next(9) - 4
		}
		if holdEitherItems(t, l) {
			good++
		} else {
			bad++
		}
	}
	if good < 100 || bad < 100 {
		t.Error(good, bad)
	}
}

func TestNamedEvents(t *testing.T) {
	for _, c := range []struct {
		versions []int
		want     []impl.Item
	}{
		{nil, nil},
		{[]int{0}, itemList([2]int{1, 0})},
		{[]int{1000000}, itemList([2]int{1, 1000000})},
		{[]int{0, 0, 0}, itemList([2]int{3, 0})},
		{[]int{0, 0, 10, 10, 10, 21}, itemList([2]int{2, 0}, [2]int{5, 10}, [2]int{6, 21})},
		{[]int{0, 1, 2}, itemList([2]int{1, 0}, [2]int{2, 1}, [2]int{3, 2})},
		{[]int{7, 7, 1000000}, itemList([2]int{2, 7}, [2]int{3, 1000000})},
	} {
		if items := holdEvents(t, eventsOf(c.versions)); !slices.Equal(items, c.want) {
			t.Errorf("ItemsOf %v: %v", c.versions, items)
		}
	}
	if items, ok := impl.ItemsOf([]impl.Event{}); !ok || len(items) != 0 {
		t.Error(items, ok)
	}
	if items, ok := impl.ItemsOf(nil); !ok || len(items) != 0 {
		t.Error(items, ok)
	}
}

func TestHowManyEventsHaveItems(t *testing.T) {
	for _, version := range []int{0, 500, 1000000} {
		for count := range impl.MaxEvents + 1 {
			holdEvents(t, eventsOf(slices.Repeat([]int{version}, count)))
		}
		for _, count := range []int{61, 62, 120, 1000, 1001} {
			holdEventsRefused(t, eventsOf(slices.Repeat([]int{version}, count)))
		}
	}
}

// MaxItems Versions have items, one more has none, whether each has one event or more.
func TestHowManyVersionsHaveItems(t *testing.T) {
	for count := range 30 {
		var each, last []int
		for version := range count {
			each = append(each, 3*version)
			last = append(last, version+1000001-count)
		}
		twice := slices.Concat(each, each)
		slices.Sort(twice)
		for _, versions := range [][]int{each, last, twice} {
			if good := holdEitherEvents(t, eventsOf(versions)); good != (count <= impl.MaxItems) {
				t.Errorf("%d Versions, %d events: %v", count, len(versions), good)
			}
		}
	}
	// The last one of as many events as may be is one Version too many.
	versions := slices.Repeat([]int{0}, 40)
	for version := 1; version <= 20; version++ {
		versions = append(versions, version)
	}
	holdEventsRefused(t, eventsOf(versions))
	versions[59] = 19
	if items := holdEvents(t, eventsOf(versions)); len(items) != impl.MaxItems {
		t.Error(items)
	}
}

// All rows of few events, with each Id and Version out of a few.
func TestEveryFewEvents(t *testing.T) {
	good, bad := 0, 0
	var fill func(l []impl.Event, most int)
	fill = func(l []impl.Event, most int) {
		if holdEitherEvents(t, l) {
			good++
		} else {
			bad++
		}
		if len(l) == most {
			return
		}
		for id := range 5 {
			for version := -1; version < 3; version++ {
				fill(append(slices.Clone(l), impl.Event{Id: id, Version: version, Kind: impl.EvSignal}), most)
			}
		}
	}
	fill(nil, 3)
	if good < 15 || bad < 5000 {
		t.Error(good, bad)
	}
}

func TestManyEventsHaveItems(t *testing.T) {
	good, bad := 0, 0
	for seed := range 400 {
		next := numbersFrom(uint64(75000 + seed))
		version := next(3) * next(999900)
		var versions []int
		for range 1 + next(60) {
			versions = append(versions, version)
			version += (1 + next(5)) * max(0, next(6)-4)
		}
		if holdEitherEvents(t, eventsOf(versions)) {
			good++
		}
		l := eventsOf(versions)
		e := &l[next(len(l))]
		switch next(4) {
		case 0:
			e.Id += next(5) - 2
		case 1:
			e.Version += next(9) - 6
		case 2:
			e.Kind = next(9) - 1
		default:
			e.Name = []string{"a", "A", longestName, longestName + "0"}[next(4)]
		}
		if !holdEitherEvents(t, l) {
			bad++
		}
	}
	if good < 100 || bad < 100 {
		t.Error(good, bad)
	}
}

// One event that is not as said, at each place of a row.
func TestItemsOfBadEvents(t *testing.T) {
	for _, count := range []int{1, 2, 5, impl.MaxEvents} {
		for place := range count {
			change := func(change func(e *impl.Event)) {
				l := eventsOf(slices.Repeat([]int{10}, count))
				change(&l[place])
				holdEventsRefused(t, l)
			}
			for _, wrong := range badEvents() {
				change(func(e *impl.Event) { *e = wrong })
				// With the Id and the Version of its place, where it has good ones, so that Kind or Name alone is wrong.
				if wrong.Id == 3 && wrong.Version == 10 {
					change(func(e *impl.Event) { e.Kind, e.Name = wrong.Kind, wrong.Name })
				}
			}
			for _, id := range append([]int{0, -1, place, place + 2, place + 3, 1000, 1001}, farNumbers...) {
				change(func(e *impl.Event) { e.Id = id })
			}
			for _, version := range append([]int{-1, 1000001}, farNumbers...) {
				change(func(e *impl.Event) { e.Version = version })
			}
			if place > 0 {
				change(func(e *impl.Event) { e.Version = 9 })
				change(func(e *impl.Event) { e.Version = 0 })
			}
			if place < count-1 {
				change(func(e *impl.Event) { e.Version = 11 })
			}
		}
	}
}

// Ids that do not begin at 1, leave one out, come twice, or fall.
func TestItemsOfOtherIds(t *testing.T) {
	for _, ids := range [][]int{{2}, {0}, {0, 1}, {2, 3, 4}, {1, 3}, {1, 2, 4}, {1, 1}, {1, 2, 2}, {1, 2, 2, 3}, {2, 1}, {1, 3, 2}, {1000}, {1000, 1001}, {3, 2, 1}} {
		for _, versions := range [][]int{slices.Repeat([]int{0}, len(ids)), {0, 1, 2, 3}} {
			l := eventsOf(versions[:len(ids)])
			for i := range l {
				l[i].Id = ids[i]
			}
			holdEventsRefused(t, l)
		}
	}
	// A piece of a row is a row only from its beginning on.
	l := eventsOf([]int{0, 0, 1, 1, 2})
	for from := range l {
		for to := from; to <= len(l); to++ {
			if holdEitherEvents(t, l[from:to]) != (from == 0 || from == to) {
				t.Error(from, to)
			}
		}
	}
}

// Many who ask at once get what one gets.
func TestTellingsAskedForAtOnce(t *testing.T) {
	var group sync.WaitGroup
	a, b := stairs(20, 50, 50000), append(stairs(10, 50, 50000), impl.Item{Upto: 1000, Version: 999999})
	l := eventsOf(slices.Repeat([]int{7}, impl.MaxEvents))
	for range 8 {
		group.Go(func() {
			for range 100 {
				if lca, ok := impl.LcaOf(a, b); !ok || lca != (impl.Item{Upto: 500, Version: 500000}) {
					t.Errorf("LcaOf: %v, %v", lca, ok)
				}
				if longer, ok := impl.AppendItem(a[:10], 501, 500001); !ok || len(longer) != 11 {
					t.Errorf("AppendItem: %v, %v", longer, ok)
				}
				if cut, ok := impl.CutItems(a, 501); !ok || len(cut) != 11 || cut[10].Upto != 501 {
					t.Errorf("CutItems: %v, %v", cut, ok)
				}
				if items, ok := impl.ItemsOf(l); !ok || !slices.Equal(items, itemList([2]int{60, 7})) {
					t.Errorf("ItemsOf: %v, %v", items, ok)
				}
			}
		})
	}
	group.Wait()
}
