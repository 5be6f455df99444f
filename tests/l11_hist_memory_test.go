package tests

import (
	"math"
	"slices"
	"testing"

	"loop.example/g00269/impl"
)

var wrongItem = impl.Item{Upto: math.MinInt, Version: -5}

// itemsBehind lays wrong items behind a list.
func itemsBehind(l []impl.Item) []impl.Item {
	return append(slices.Clone(l), wrongItem, wrongItem, wrongItem)[:len(l)]
}

// eventsBehind lays wrong events behind a list.
func eventsBehind(l []impl.Event) []impl.Event {
	wrong := impl.Event{Id: -1, Version: math.MaxInt, Kind: 99, Name: "!"}
	return append(slices.Clone(l), wrong, wrong, wrong)[:len(l)]
}

// idsFor tells Ids at and around those that count for items.
func idsFor(l []impl.Item) []int {
	ids := []int{math.MinInt, -1, 0, 1, 2, 1000, 1001, math.MaxInt}
	for _, it := range l {
		ids = append(ids, it.Upto-1, it.Upto, it.Upto+1)
	}
	return ids
}

// answeredItems asks all functions that answer items.
func answeredItems(l []impl.Item) [][]impl.Item {
	var all [][]impl.Item
	for _, id := range idsFor(l) {
		cut, _ := impl.CutItems(l, id)
		all = append(all, cut)
	}
	id, version := 1, 0
	if len(l) > 0 {
		id, version = l[len(l)-1].Upto+1, l[len(l)-1].Version
	}
	for _, add := range []int{-1, 0, 1} {
		longer, _ := impl.AppendItem(l, id, version+add)
		refused, _ := impl.AppendItem(l, id+1, version+add)
		all = append(all, longer, refused)
	}
	return all
}

// answeredOfTellings asks all functions that answer numbers.
func answeredOfTellings(a []impl.Item, b []impl.Item) []int {
	is := map[bool]int{false: 0, true: 1}
	lca, there := impl.LcaOf(a, b)
	ahead, known := impl.IsAhead(a, b)
	newer, both := impl.NewerOf(a, b)
	upto, version, last := impl.LastOf(a)
	all := []int{lca.Upto, lca.Version, is[there], is[ahead], is[known], newer, is[both], upto, version, is[last], is[impl.GoodItems(a)]}
	for _, id := range idsFor(a) {
		version, ok := impl.VersionAt(a, id)
		all = append(all, version, is[ok])
	}
	return all
}

// holdNothingBehindItems holds that behind an answer nothing lies.
func holdNothingBehindItems(t *testing.T, l []impl.Item) {
	t.Helper()
	for _, it := range l[len(l):cap(l)] {
		if it != (impl.Item{}) {
			t.Fatalf("behind the items %v lies %v", l, it)
		}
	}
}

// fillItems writes over all that a list has, up to its capacity.
func fillItems(l []impl.Item) {
	l = l[:cap(l)]
	for i := range l {
		l[i] = wrongItem
	}
}

// holdItemMemory holds that no items are changed, nothing behind them is read, and no answer shares memory with them or another one.
func holdItemMemory(t *testing.T, a []impl.Item, b []impl.Item) {
	t.Helper()
	want, numbers := answeredItems(slices.Clip(slices.Clone(a))), answeredOfTellings(slices.Clip(slices.Clone(a)), slices.Clip(slices.Clone(b)))
	one, two := itemsBehind(a), itemsBehind(b)
	kept, other := slices.Clone(one[:cap(one)]), slices.Clone(two[:cap(two)])
	for range 2 {
		got := answeredItems(one)
		if !slices.EqualFunc(got, want, slices.Equal[[]impl.Item]) || !slices.Equal(answeredOfTellings(one, two), numbers) {
			t.Fatalf("%v, %v: what lies behind a list is read, or an answer was kept", a, b)
		}
		for i, l := range got {
			holdNothingBehindItems(t, l)
			if !slices.Equal(l, want[i]) {
				t.Fatalf("%v: answer %d shares memory with another one", a, i)
			}
			fillItems(l)
		}
		if !slices.Equal(one[:cap(one)], kept) || !slices.Equal(two[:cap(two)], other) {
			t.Fatalf("the items %v or %v, or what lies behind them, are written into", a, b)
		}
	}
	// The answers stay what they are when the argument is changed.
	got := answeredItems(one)
	fillItems(one)
	if !slices.EqualFunc(got, want, slices.Equal[[]impl.Item]) {
		t.Fatalf("%v: an answer lies in the memory of the argument", a)
	}
}

func TestItemsAreLeftAlone(t *testing.T) {
	for seed := range 300 {
		next := numbersFrom(uint64(76000 + seed))
		a, b := someItems(next(21), next), someItems(next(21), next)
		holdItemMemory(t, a, b)
		holdItemMemory(t, a, a)
		holdItemMemory(t, a, goOnFrom(a, next(5), next))
	}
	holdItemMemory(t, nil, nil)
	holdItemMemory(t, []impl.Item{}, itemList([2]int{1, 0}))
	holdItemMemory(t, stairs(20, 50, 50000), stairs(19, 50, 50000))
}

func TestBadItemsAreLeftAlone(t *testing.T) {
	for _, l := range badItems() {
		holdItemMemory(t, l, itemList([2]int{3, 0}, [2]int{5, 10}))
		holdItemMemory(t, itemList([2]int{3, 0}, [2]int{5, 10}), l)
	}
}

// What is appended to a beginning of items comes neither into the items behind it nor into its last one.
func TestItemsInOneMemory(t *testing.T) {
	whole := stairs(20, 10, 10)
	kept := slices.Clone(whole)
	for count := range len(whole) + 1 {
		first := whole[:count]
		id, version := count*10+1, count*10
		if longer, ok := impl.AppendItem(first, id, version); !ok || len(longer) != max(count, 1) {
			t.Fatalf("AppendItem %v, %d, %d: %v, %v", first, id, version, longer, ok)
		}
		one, fine := impl.AppendItem(first, id, version+1)
		two, also := impl.AppendItem(first, id, version+2)
		if fine != (count < 20) || also != fine {
			t.Fatalf("AppendItem %v: %v, %v", first, fine, also)
		}
		if fine && (one[count].Version != version+1 || two[count].Version != version+2) {
			t.Fatalf("%v and %v lie in one memory", one, two)
		}
		cut, ok := impl.CutItems(whole, count*10)
		if !ok || !slices.Equal(cut, kept[:count]) {
			t.Fatalf("CutItems %v, %d: %v, %v", whole, count*10, cut, ok)
		}
		fillItems(cut)
		holdAhead(t, first, whole, true)
		if !slices.Equal(whole, kept) {
			t.Fatalf("%v is written into: %v", kept, whole)
		}
	}
}

// A list ends where its length says, whatever lies behind it.
func TestItemsBehindTheList(t *testing.T) {
	l := stairs(30, 10, 10)
	for length := range len(l) + 1 {
		if good := impl.GoodItems(l[:length]); good != (length <= impl.MaxItems) {
			t.Errorf("%d items: %v", length, good)
		}
	}
	l = itemList([2]int{3, 0}, [2]int{5, 10}, [2]int{5, 11}, [2]int{9, 12})
	for length := range len(l) + 1 {
		if _, ok := impl.LcaOf(l[:length], l[:1]); ok != (length == 1 || length == 2) {
			t.Errorf("%d of %v: %v", length, l, ok)
		}
	}
	// Nor does it count what stands ahead of a piece of a list.
	if upto, version, ok := impl.LastOf(l[2:]); !ok || upto != 9 || version != 12 {
		t.Error(upto, version, ok)
	}
}

func holdEventMemory(t *testing.T, l []impl.Event) {
	t.Helper()
	first, ok := impl.ItemsOf(slices.Clip(slices.Clone(l)))
	want := slices.Clone(first)
	laid := eventsBehind(l)
	kept := slices.Clone(laid[:cap(laid)])
	for range 2 {
		items, again := impl.ItemsOf(laid)
		if again != ok || !slices.Equal(items, want) {
			t.Fatalf("ItemsOf %v: %v, %v: what lies behind the list is read, or an answer was kept", l, items, again)
		}
		holdNothingBehindItems(t, items)
		fillItems(items)
		if !slices.Equal(first, want) {
			t.Fatalf("ItemsOf %v: two answers share memory", l)
		}
		if !slices.Equal(laid[:cap(laid)], kept) {
			t.Fatalf("the events %v, or what lies behind them, are written into", l)
		}
	}
}

func TestEventsWithItemsAreLeftAlone(t *testing.T) {
	everyVersions(5, 4, func(versions []int) {
		holdEventMemory(t, eventsOf(versions))
	})
	for _, count := range []int{19, 20, 21, 60, 61} {
		holdEventMemory(t, eventsOf(slices.Repeat([]int{3}, count)))
		holdEventMemory(t, eventsOf(numbersBelow(count)))
	}
	for _, e := range badEvents() {
		holdEventMemory(t, []impl.Event{{Id: 1, Kind: impl.EvStart}, e})
	}
	// Events behind the list are not read.
	l := eventsOf(slices.Repeat([]int{3}, 70))
	l[50].Version = 2
	for length := range len(l) + 1 {
		if items, ok := impl.ItemsOf(l[:length]); ok != (length <= 50) || ok && length > 0 && items[0].Upto != length {
			t.Errorf("%d events: %v, %v", length, items, ok)
		}
	}
}
