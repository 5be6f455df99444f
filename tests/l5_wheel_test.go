package tests

import (
	"math"
	"slices"
	"testing"

	"loop.example/g00269/impl"
)

// holdWheel holds each function against the document's words, of a good wheel.
func holdWheel(t *testing.T, w impl.Wheel) {
	t.Helper()
	if !impl.GoodWheel(w) {
		t.Fatalf("GoodWheel refuses %v", w)
	}
	want := timersByWords(w)
	if got, ok := impl.TimersIn(w); !ok || !slices.Equal(got, want) {
		t.Fatalf("TimersIn %v: %v, %v", w, got, ok)
	}
	holdTick(t, w)
	for _, far := range []int{0, 1, 2, 7, 8, 9, 64, 65, 500, 511, 512, 1000} {
		if w.Now+far <= 100000 {
			holdAdvance(t, w, w.Now+far)
		}
	}
	for _, timer := range want {
		if got, ok := impl.DropTimer(w, timer.Id); !ok || !sameWheels(got, dropByWords(w, timer.Id)) {
			t.Fatalf("DropTimer %v, %d: %v, %v", w, timer.Id, got, ok)
		}
	}
}

func holdTick(t *testing.T, w impl.Wheel) {
	t.Helper()
	got, due, ok := impl.TickWheel(w)
	if w.Now == 100000 {
		if ok || len(due) != 0 || !isZeroWheel(got) {
			t.Fatalf("TickWheel %v: %v, %v, %v", w, got, due, ok)
		}
		return
	}
	want, wantDue, _ := tickByWords(w)
	if !ok || !slices.Equal(due, wantDue) || !sameWheels(got, want) {
		t.Fatalf("TickWheel %v: %v, %v, %v", w, got, due, ok)
	}
	if !impl.GoodWheel(got) {
		t.Fatalf("TickWheel %v: %v is not good", w, got)
	}
}

// holdAdvance holds the promise, too: just the timers whose time has come are due, in order.
func holdAdvance(t *testing.T, w impl.Wheel, to int) {
	t.Helper()
	want, wantDue, wantWork := advanceByWords(w, to)
	got, due, work, ok := impl.AdvanceWheel(w, to)
	if !ok || work != wantWork || !slices.Equal(due, wantDue) || !sameWheels(got, want) {
		t.Fatalf("AdvanceWheel %v, %d: %v, %v, %d, %v", w, to, got, due, work, ok)
	}
	timers := timersByWords(w)
	for i, id := range due {
		if timers[i].Id != id || timers[i].At > to {
			t.Fatalf("AdvanceWheel %v, %d: %v, where %v come", w, to, due, timers)
		}
	}
	left, _ := impl.TimersIn(got)
	if !slices.Equal(left, timers[len(due):]) || len(left) > 0 && left[0].At <= to {
		t.Fatalf("AdvanceWheel %v, %d leaves %v", w, to, left)
	}
}

// holdSet holds what SetTimer tells of a good wheel and any timer.
func holdSet(t *testing.T, w impl.Wheel, timer impl.Timer) (impl.Wheel, bool) {
	t.Helper()
	there := timersByWords(w)
	room := len(there) < 60 && timer.Id >= 0 && timer.Id <= 1000
	for _, other := range there {
		room = room && other.Id != timer.Id
	}
	var want impl.Wheel
	wantOk := false
	if room {
		want, wantOk = setByWords(w, timer)
	}
	got, ok := impl.SetTimer(w, timer)
	if ok != wantOk || !sameWheels(got, want) {
		t.Fatalf("SetTimer %v, %v: %v, %v", w, timer, got, ok)
	}
	return got, ok
}

// holdWheelRefused holds that each function tells the zero answer of a wheel that is not good.
func holdWheelRefused(t *testing.T, w impl.Wheel) {
	t.Helper()
	if impl.GoodWheel(w) || goodWheelByWords(w) {
		t.Fatalf("GoodWheel takes %v", w)
	}
	if got, ok := impl.SetTimer(w, impl.Timer{At: w.Now + 1, Id: 900}); ok || !isZeroWheel(got) {
		t.Errorf("SetTimer %v: %v, %v", w, got, ok)
	}
	for _, id := range []int{0, 1, 2, 900} {
		if got, ok := impl.DropTimer(w, id); ok || !isZeroWheel(got) {
			t.Errorf("DropTimer %v, %d: %v, %v", w, id, got, ok)
		}
	}
	if got, due, ok := impl.TickWheel(w); ok || len(due) != 0 || !isZeroWheel(got) {
		t.Errorf("TickWheel %v: %v, %v, %v", w, got, due, ok)
	}
	for _, to := range []int{w.Now, w.Now + 1, w.Now + 8, 100, math.MaxInt, math.MinInt} {
		if got, due, work, ok := impl.AdvanceWheel(w, to); ok || work != 0 || len(due) != 0 || !isZeroWheel(got) {
			t.Errorf("AdvanceWheel %v, %d: %v, %v, %d, %v", w, to, got, due, work, ok)
		}
	}
	if got, ok := impl.TimersIn(w); ok || len(got) != 0 {
		t.Errorf("TimersIn %v: %v, %v", w, got, ok)
	}
}

func TestWheelLimitsAreAsTold(t *testing.T) {
	if impl.WheelSize != 8 || impl.WheelLevels != 3 || impl.MaxTimers != 60 {
		t.Error(impl.WheelSize, impl.WheelLevels, impl.MaxTimers)
	}
}

func TestNewWheel(t *testing.T) {
	w := impl.NewWheel()
	if !sameWheels(w, emptyWheel(0)) {
		t.Fatal(w)
	}
	holdWheel(t, w)
	w.Slots[3] = append(w.Slots[3], impl.Timer{At: 3})
	if again := impl.NewWheel(); !sameWheels(again, emptyWheel(0)) {
		t.Error("what is written into a new wheel is in the next one:", again)
	}
}

func TestSlotsForEachTime(t *testing.T) {
	var times []int
	for now := range 1200 {
		times = append(times, now)
	}
	for now := 99400; now <= 100000; now++ {
		times = append(times, now)
	}
	for _, now := range times {
		for at := now - 2; at <= now+520; at++ {
			want, wantOk := slotByWords(now, at)
			if got, ok := impl.SlotFor(now, at); got != want || ok != wantOk {
				t.Fatalf("SlotFor %d, %d: %d, %v", now, at, got, ok)
			}
		}
	}
}

func TestNamedSlots(t *testing.T) {
	for _, row := range [][3]int{
		{0, 1, 1}, {0, 7, 7}, {0, 8, 9}, {0, 15, 9}, {0, 16, 10}, {0, 63, 15}, {0, 64, 17}, {0, 70, 17}, {0, 511, 23},
		// 7 more are within reach of level 0 even where its slots go round.
		{5, 12, 4}, {5, 13, 9}, {7, 8, 0}, {63, 64, 0},
		// 57 up to 63 more, and yet 8 slots of level 1 ahead: the next level has them.
		{7, 64, 17}, {7, 63, 15}, {1, 64, 17}, {63, 119, 14}, {63, 120, 17}, {63, 127, 17}, {63, 128, 18},
		{64, 512, 16}, {64, 575, 16}, {512, 1023, 23},
		{100000, 100001, 1}, {100000, 100007, 7}, {100000, 100008, 13}, {100000, 100479, 17},
	} {
		if got, ok := impl.SlotFor(row[0], row[1]); got != row[2] || !ok {
			t.Errorf("SlotFor %d, %d: %d, %v, not %d", row[0], row[1], got, ok, row[2])
		}
	}
}

func TestTimesWithoutSlot(t *testing.T) {
	for _, row := range [][2]int{
		// Less than 512 units beyond, and yet 8 slots of the highest level.
		{1, 512}, {63, 512}, {63, 574}, {65, 576}, {100000, 100480}, {100000, 100511},
		{0, 512}, {64, 576}, {0, 0}, {5, 5}, {5, 4}, {0, -1}, {100000, 100512}, {100000, 100000},
		{-1, 0}, {-1, 1}, {-8, -7}, {100001, 100002}, {100001, 100001},
		{0, math.MaxInt}, {0, math.MinInt}, {100000, math.MinInt}, {math.MaxInt, math.MaxInt}, {math.MinInt, math.MinInt},
		{math.MinInt, math.MinInt + 1}, {math.MaxInt - 1, math.MaxInt}, {math.MaxInt, math.MinInt}, {math.MinInt, math.MaxInt},
		{math.MaxInt, 1}, {math.MinInt, 1},
	} {
		if got, ok := impl.SlotFor(row[0], row[1]); got != 0 || ok {
			t.Errorf("SlotFor %d, %d: %d, %v", row[0], row[1], got, ok)
		}
	}
}

func TestEachTimerIsDueAtItsTime(t *testing.T) {
	for _, now := range wheelTimes() {
		for at := now + 1; at < now+wheelReach; at++ {
			w, ok := holdSet(t, emptyWheel(now), impl.Timer{At: at, Id: 1000})
			if !ok || at > 100000 {
				continue
			}
			for w.Now < at {
				later, due, ok := impl.TickWheel(w)
				if !ok || later.Now != w.Now+1 || len(due) > 0 != (later.Now == at) {
					t.Fatalf("from %d a timer at %d: %v are due at %d, %v", now, at, due, later.Now, ok)
				}
				w = later
			}
			if left, ok := impl.TimersIn(w); !ok || len(left) != 0 {
				t.Fatalf("a timer at %d is still there at %d: %v", at, w.Now, left)
			}
		}
	}
}

func TestNamedWheel(t *testing.T) {
	w := impl.NewWheel()
	for i, at := range []int{5, 8, 70, 9, 300, 64, 64} {
		w, _ = holdSet(t, w, impl.Timer{At: at, Id: 6 - i})
	}
	if !sameWheels(w, wheelOf(0, [][3]int{{5, 5, 6}, {9, 8, 5}, {17, 70, 4}, {9, 9, 3}, {20, 300, 2}, {17, 64, 1}, {17, 64, 0}})) {
		t.Fatal(w)
	}
	for _, c := range []struct {
		to   int
		due  []int
		work int
		left [][3]int
	}{
		{0, nil, 0, [][3]int{{5, 5, 6}, {9, 8, 5}, {17, 70, 4}, {9, 9, 3}, {20, 300, 2}, {17, 64, 1}, {17, 64, 0}}},
		{5, []int{6}, 1, [][3]int{{9, 8, 5}, {17, 70, 4}, {9, 9, 3}, {20, 300, 2}, {17, 64, 1}, {17, 64, 0}}},
		// At 8 one that leaves level 1 is due, and one is moved.
		{8, []int{6, 5}, 3, [][3]int{{17, 70, 4}, {1, 9, 3}, {20, 300, 2}, {17, 64, 1}, {17, 64, 0}}},
		{63, []int{6, 5, 3}, 4, [][3]int{{17, 70, 4}, {20, 300, 2}, {17, 64, 1}, {17, 64, 0}}},
		// At 64 two that leave level 2 are due, and one is moved to level 0.
		{64, []int{6, 5, 3, 0, 1}, 7, [][3]int{{6, 70, 4}, {20, 300, 2}}},
		{70, []int{6, 5, 3, 0, 1, 4}, 8, [][3]int{{20, 300, 2}}},
		{256, []int{6, 5, 3, 0, 1, 4}, 9, [][3]int{{13, 300, 2}}},
		{296, []int{6, 5, 3, 0, 1, 4}, 10, [][3]int{{4, 300, 2}}},
		{300, []int{6, 5, 3, 0, 1, 4, 2}, 11, nil},
		{1000, []int{6, 5, 3, 0, 1, 4, 2}, 11, nil},
	} {
		got, due, work, ok := impl.AdvanceWheel(w, c.to)
		if !ok || work != c.work || !slices.Equal(due, c.due) || !sameWheels(got, wheelOf(c.to, c.left)) {
			t.Errorf("AdvanceWheel to %d: %v, %v, %d, %v", c.to, got, due, work, ok)
		}
	}
}

func TestSlotsOfBothLevelsAreEmptiedAtOnce(t *testing.T) {
	// All that comes at 64, from each level, and what is moved then, behind what lies there already.
	w := wheelOf(63, [][3]int{
		{17, 64, 9}, {17, 66, 8}, {17, 75, 7}, {17, 74, 1}, {17, 127, 6}, {8, 64, 5}, {8, 66, 4}, {8, 67, 10}, {0, 64, 3}, {2, 66, 2}, {9, 73, 11},
	})
	got, due, ok := impl.TickWheel(w)
	want := wheelOf(64, [][3]int{
		{2, 66, 2}, {2, 66, 8}, {2, 66, 4}, {3, 67, 10}, {9, 73, 11}, {9, 75, 7}, {9, 74, 1}, {15, 127, 6},
	})
	if !ok || !slices.Equal(due, []int{3, 5, 9}) || !sameWheels(got, want) {
		t.Error(got, due, ok)
	}
	if _, due, work, ok := impl.AdvanceWheel(w, 64); !ok || work != 9 || !slices.Equal(due, []int{3, 5, 9}) {
		t.Error(due, work, ok)
	}
	holdWheel(t, w)
	// At 72 a slot of level 1 is emptied, and of level 2 none.
	w = wheelOf(71, [][3]int{{18, 128, 1}, {9, 72, 2}, {9, 79, 3}, {0, 72, 0}, {16, 512, 4}})
	got, due, ok = impl.TickWheel(w)
	if !ok || !slices.Equal(due, []int{0, 2}) || !sameWheels(got, wheelOf(72, [][3]int{{18, 128, 1}, {7, 79, 3}, {16, 512, 4}})) {
		t.Error(got, due, ok)
	}
	holdWheel(t, w)
}

func TestManyWheels(t *testing.T) {
	times := wheelTimes()
	for seed := range 400 {
		next := numbersFrom(uint64(6000 + seed))
		now := next(100001)
		if seed%2 == 0 {
			now = times[next(len(times))]
		}
		w := someWheel(now, next(impl.MaxTimers+1), next)
		holdWheel(t, w)
		for range 8 {
			holdSet(t, w, impl.Timer{At: now + next(wheelReach+4) - 1, Id: next(1003) - 1})
		}
	}
}

func TestWheelsThatGoOn(t *testing.T) {
	for seed := range 60 {
		next := numbersFrom(uint64(7000 + seed))
		w := emptyWheel([]int{0, 0, 440, 99000, 99700}[next(5)])
		for range 300 {
			switch next(4) {
			case 0, 1:
				timer := impl.Timer{At: w.Now + 1 + next([]int{8, 64, 512}[next(3)]), Id: next(200)}
				if later, ok := holdSet(t, w, timer); ok {
					w = later
				}
			case 2:
				id := next(200)
				if later, ok := impl.DropTimer(w, id); ok {
					if !sameWheels(later, dropByWords(w, id)) {
						t.Fatalf("DropTimer %v, %d: %v", w, id, later)
					}
					w = later
				}
			default:
				to := min(100000, w.Now+next([]int{2, 9, 70}[next(3)]))
				holdAdvance(t, w, to)
				w, _, _, _ = impl.AdvanceWheel(w, to)
			}
		}
		holdWheel(t, w)
	}
}

func TestAdvanceIsAsTicks(t *testing.T) {
	for seed := range 40 {
		next := numbersFrom(uint64(7900 + seed))
		w := someWheel(next(90000), impl.MaxTimers, next)
		var all []int
		later := w
		for far := range 601 {
			got, due, _, ok := impl.AdvanceWheel(w, w.Now+far)
			if !ok || !sameWheels(got, later) || !slices.Equal(due, all) {
				t.Fatalf("AdvanceWheel %v by %d: %v, %v, %v", w, far, got, due, ok)
			}
			var ids []int
			later, ids, _ = impl.TickWheel(later)
			all = append(all, ids...)
		}
		if len(all) != impl.MaxTimers {
			t.Fatalf("%v: only %v were due", w, all)
		}
	}
}

func TestTimersAtTheirBounds(t *testing.T) {
	for _, c := range []struct {
		timer impl.Timer
		ok    bool
	}{
		{impl.Timer{At: 1, Id: 0}, true}, {impl.Timer{At: 511, Id: 1000}, true},
		{impl.Timer{At: 1, Id: -1}, false}, {impl.Timer{At: 1, Id: 1001}, false},
		{impl.Timer{At: 1, Id: math.MaxInt}, false}, {impl.Timer{At: 1, Id: math.MinInt}, false},
		{impl.Timer{At: 0, Id: 5}, false}, {impl.Timer{At: -1, Id: 5}, false}, {impl.Timer{At: 512, Id: 5}, false},
		{impl.Timer{At: math.MaxInt, Id: 5}, false}, {impl.Timer{At: math.MinInt, Id: 5}, false},
		{impl.Timer{At: 3, Id: 77}, false},
	} {
		w := wheelOf(0, [][3]int{{2, 2, 77}})
		if _, ok := holdSet(t, w, c.timer); ok != c.ok {
			t.Errorf("SetTimer %v: %v", c.timer, ok)
		}
	}
	// Less than 512 units beyond, and yet without a slot.
	if got, ok := holdSet(t, emptyWheel(1), impl.Timer{At: 512, Id: 1}); ok {
		t.Error(got)
	}
	if _, ok := holdSet(t, emptyWheel(100000), impl.Timer{At: 100479, Id: 1}); !ok {
		t.Error("a timer behind the last time of wheels is refused")
	}
	if got, ok := holdSet(t, emptyWheel(100000), impl.Timer{At: 100480, Id: 1}); ok {
		t.Error(got)
	}
}

func TestJustMaxTimers(t *testing.T) {
	w := impl.NewWheel()
	for id := range impl.MaxTimers {
		var ok bool
		if w, ok = holdSet(t, w, impl.Timer{At: 1 + 8*id, Id: id}); !ok {
			t.Fatal(id)
		}
	}
	holdWheel(t, w)
	if _, ok := holdSet(t, w, impl.Timer{At: 5, Id: 500}); ok {
		t.Error("one more than MaxTimers is taken")
	}
	less, ok := impl.DropTimer(w, 30)
	if !ok {
		t.Fatal("a timer can't be dropped")
	}
	if _, ok := holdSet(t, less, impl.Timer{At: 5, Id: 30}); !ok {
		t.Error("room that a timer left is not there")
	}
	w.Slots[5] = append(w.Slots[5], impl.Timer{At: 5, Id: 500})
	holdWheelRefused(t, w)
	// All of them in one slot, and all due at once.
	w = impl.NewWheel()
	var ids []int
	for id := range impl.MaxTimers {
		w, _ = holdSet(t, w, impl.Timer{At: 64, Id: impl.MaxTimers - id})
		ids = append(ids, id+1)
	}
	if got, due, work, ok := impl.AdvanceWheel(w, 64); !ok || work != 60 || !slices.Equal(due, ids) || !sameWheels(got, emptyWheel(64)) {
		t.Error(got, due, work, ok)
	}
}

func TestTimersThatAreNotThere(t *testing.T) {
	w := wheelOf(10, [][3]int{{3, 11, 0}, {4, 12, 1000}, {10, 17, 7}})
	for _, id := range []int{-1, 1, 999, 1001, 11, math.MaxInt, math.MinInt} {
		if got, ok := impl.DropTimer(w, id); ok || !isZeroWheel(got) {
			t.Errorf("DropTimer %d: %v, %v", id, got, ok)
		}
	}
	if got, ok := impl.DropTimer(emptyWheel(5), 0); ok || !isZeroWheel(got) {
		t.Error(got, ok)
	}
	one, _ := impl.DropTimer(w, 1000)
	if got, ok := impl.DropTimer(one, 1000); ok || !isZeroWheel(got) {
		t.Error(got, ok)
	}
}

func TestTimesToAdvanceTo(t *testing.T) {
	for _, now := range []int{0, 5, 99000, 99001, 99999, 100000} {
		w := wheelOf(now, [][3]int{{(now + 1) % 8, now + 1, 3}})
		for _, to := range []int{now, now + 1, now + 2, now + 999, now + 1000} {
			if to <= 100000 {
				holdAdvance(t, w, to)
				continue
			}
			if got, due, work, ok := impl.AdvanceWheel(w, to); ok || work != 0 || len(due) != 0 || !isZeroWheel(got) {
				t.Errorf("AdvanceWheel from %d to %d: %v, %v, %d, %v", now, to, got, due, work, ok)
			}
		}
		for _, to := range []int{now - 1, -1, now - 1000, now + 1001, 100001, math.MaxInt, math.MinInt} {
			if got, due, work, ok := impl.AdvanceWheel(w, to); ok || work != 0 || len(due) != 0 || !isZeroWheel(got) {
				t.Errorf("AdvanceWheel from %d to %d: %v, %v, %d, %v", now, to, got, due, work, ok)
			}
		}
	}
}

func TestLastTick(t *testing.T) {
	w := wheelOf(99999, [][3]int{{0, 100000, 4}, {8 + 12500%8, 100000, 2}, {1, 100001, 1}})
	got, due, ok := impl.TickWheel(w)
	if !ok || !slices.Equal(due, []int{2, 4}) || !sameWheels(got, wheelOf(100000, [][3]int{{1, 100001, 1}})) {
		t.Fatal(got, due, ok)
	}
	holdWheel(t, got)
	if later, due, ok := impl.TickWheel(got); ok || len(due) != 0 || !isZeroWheel(later) {
		t.Error("a tick beyond the last time:", later, due, ok)
	}
}

// TestEveryPlaceOfATimer holds GoodWheel against the words, a timer in each slot in turn.
func TestEveryPlaceOfATimer(t *testing.T) {
	for _, now := range wheelTimes() {
		for at := now - 2; at <= now+wheelReach+2; at++ {
			for slot := range 24 {
				w := wheelOf(now, [][3]int{{slot, at, 5}})
				if got := impl.GoodWheel(w); got != goodWheelByWords(w) {
					t.Fatalf("GoodWheel %v: %v", w, got)
				}
			}
		}
	}
}

func badWheels() []impl.Wheel {
	bad := []impl.Wheel{
		{}, {Slots: make([][]impl.Timer, 23)}, {Slots: make([][]impl.Timer, 25)}, {Slots: make([][]impl.Timer, 1)}, {Slots: make([][]impl.Timer, 48)},
		emptyWheel(-1), emptyWheel(100001), emptyWheel(math.MaxInt), emptyWheel(math.MinInt), emptyWheel(-8),
		wheelOf(100001, [][3]int{{2, 100002, 1}}), wheelOf(-1, [][3]int{{0, 0, 1}}), wheelOf(-1, [][3]int{{1, 1, 1}}),
	}
	for _, rows := range [][][3]int{
		// Another number than its own, in each level; and a slot that is its own in another level.
		{{2, 1, 1}}, {{10, 8, 1}}, {{18, 64, 1}}, {{9, 1, 1}}, {{8, 1, 1}}, {{17, 8, 1}}, {{0, 8, 1}}, {{8, 64, 1}},
		// Not above Now, or too far beyond it.
		{{0, 0, 1}}, {{7, -1, 1}}, {{0, -8, 1}}, {{8, 512, 1}}, {{16, 512, 1}}, {{17, 576, 1}}, {{1, 9, 1}}, {{1, 513, 1}},
		{{7, math.MaxInt, 1}}, {{0, math.MinInt, 1}}, {{15, math.MaxInt, 1}}, {{23, math.MaxInt, 1}}, {{16, math.MinInt, 1}},
		// Two timers of one Id, in one slot and in two.
		{{1, 1, 1}, {1, 1, 1}}, {{1, 1, 1}, {2, 2, 1}}, {{1, 1, 1}, {2, 2, 2}, {17, 70, 1}}, {{1, 1, 0}, {9, 8, 0}},
		{{1, 1, -1}}, {{1, 1, 1001}}, {{1, 1, math.MaxInt}}, {{1, 1, math.MinInt}},
		{{1, 1, 1}, {2, 2, 2}, {3, 4, 3}},
	} {
		bad = append(bad, wheelOf(0, rows))
	}
	var many [][3]int
	for id := range 61 {
		many = append(many, [3]int{1 + id%7, 1 + id%7, id})
	}
	bad = append(bad, wheelOf(0, many), wheelOf(0, slices.Repeat(many[:1], 3000)))
	// Good ones whose time went on without them.
	bad = append(bad, wheelOf(1, [][3]int{{1, 1, 1}}), wheelOf(8, [][3]int{{9, 8, 1}}), wheelOf(64, [][3]int{{17, 70, 1}}))
	return bad
}

func TestBadWheels(t *testing.T) {
	for _, w := range badWheels() {
		holdWheelRefused(t, w)
	}
}

func TestWheelsThatAreChanged(t *testing.T) {
	for seed := range 3000 {
		next := numbersFrom(uint64(8000 + seed))
		w := someWheel(next(2000), 1+next(6), next)
		switch next(3) {
		case 0:
			w.Now += next(130) - 65
		case 1:
			from, to := next(24), next(24)
			w.Slots[from], w.Slots[to] = w.Slots[to], w.Slots[from]
		default:
			slot := slices.IndexFunc(w.Slots, func(l []impl.Timer) bool { return len(l) > 0 })
			w.Slots[slot][0].At += next(600) - 300
		}
		if goodWheelByWords(w) {
			holdTick(t, w)
			continue
		}
		holdWheelRefused(t, w)
	}
}
