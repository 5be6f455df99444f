package tests

import (
	"slices"
	"testing"

	"loop.example/g00269/impl"
)

var wrongTimer = impl.Timer{At: -7, Id: 77}

// timersBehind lays wrong timers behind a list of them.
func timersBehind(l []impl.Timer) []impl.Timer {
	return append(slices.Clone(l), wrongTimer, wrongTimer, wrongTimer)[:len(l)]
}

// wheelBehind lays wrong things behind each list of a wheel.
func wheelBehind(w impl.Wheel) impl.Wheel {
	laid := impl.Wheel{Now: w.Now}
	for _, timers := range w.Slots {
		laid.Slots = append(laid.Slots, timersBehind(timers))
	}
	laid.Slots = append(laid.Slots, []impl.Timer{wrongTimer}, []impl.Timer{wrongTimer})[:len(w.Slots)]
	return laid
}

// wholeWheel copies all that lies in the memory of a wheel, up to each capacity.
func wholeWheel(w impl.Wheel) impl.Wheel {
	whole := impl.Wheel{Now: w.Now}
	for _, timers := range w.Slots[:cap(w.Slots)] {
		whole.Slots = append(whole.Slots, slices.Clone(timers[:cap(timers)]))
	}
	return whole
}

// answeredWheels asks all functions that answer a wheel.
func answeredWheels(w impl.Wheel, id int) []impl.Wheel {
	set, _ := impl.SetTimer(w, impl.Timer{At: w.Now + 1 + id%300, Id: id})
	next, _, _ := impl.TickWheel(w)
	now, _, _, _ := impl.AdvanceWheel(w, w.Now)
	later, _, _, _ := impl.AdvanceWheel(w, w.Now+100)
	all := []impl.Wheel{set, next, now, later}
	for _, timer := range timersByWords(w) {
		dropped, _ := impl.DropTimer(w, timer.Id)
		all = append(all, dropped)
	}
	return all
}

// answeredIds asks all functions that answer Ids; what else they tell stands behind them.
func answeredIds(w impl.Wheel) [][]int {
	_, next, _ := impl.TickWheel(w)
	_, now, _, _ := impl.AdvanceWheel(w, w.Now)
	_, later, work, _ := impl.AdvanceWheel(w, w.Now+100)
	told := []int{work, 0}
	if impl.GoodWheel(w) {
		told[1] = 1
	}
	return [][]int{next, now, later, told}
}

// fillWheel writes over all that a wheel's lists have, slot by slot, and holds that none of it lies in a slot that is still to come.
func fillWheel(t *testing.T, w impl.Wheel) {
	t.Helper()
	kept := copyWheel(w)
	for slot, timers := range w.Slots {
		if !slices.Equal(timers, kept.Slots[slot]) {
			t.Fatalf("slot %d of %v shares memory with another one", slot, kept)
		}
		for i := range timers[:cap(timers)] {
			timers[:cap(timers)][i] = wrongTimer
		}
	}
}

// holdNothingBehind holds that behind the lists of an answer nothing lies that was a timer once.
func holdNothingBehind(t *testing.T, w impl.Wheel) {
	t.Helper()
	for slot, timers := range w.Slots {
		for _, timer := range timers[len(timers):cap(timers)] {
			if timer != (impl.Timer{}) {
				t.Fatalf("behind slot %d of %v lies %v", slot, w, timer)
			}
		}
	}
	for _, timers := range w.Slots[len(w.Slots):cap(w.Slots)] {
		if len(timers) != 0 {
			t.Fatalf("behind the slots of %v lies %v", w, timers)
		}
	}
}

func holdWheelMemory(t *testing.T, w impl.Wheel, id int) {
	t.Helper()
	wantWheels, wantIds := answeredWheels(w, id), answeredIds(w)
	wantTimers, _ := impl.TimersIn(w)
	laid := wheelBehind(w)
	kept := wholeWheel(laid)
	for range 2 {
		wheels, ids := answeredWheels(laid, id), answeredIds(laid)
		timers, _ := impl.TimersIn(laid)
		if !slices.EqualFunc(wheels, wantWheels, sameWheels) || !sameLists(ids, wantIds) || !slices.Equal(timers, wantTimers) {
			t.Fatalf("%v: what lies behind a list is read, or an answer was kept", w)
		}
		for i, answered := range wheels {
			holdNothingBehind(t, answered)
			if !sameWheels(answered, wantWheels[i]) {
				t.Fatalf("%v: wheel %d of the answers shares memory with another one", w, i)
			}
			fillWheel(t, answered)
			for slot := range answered.Slots[:cap(answered.Slots)] {
				answered.Slots[:cap(answered.Slots)][slot] = nil
			}
		}
		for i := range ids {
			fillVec(ids[i], -5)
		}
		for i := range timers[:cap(timers)] {
			timers[:cap(timers)][i] = wrongTimer
		}
		if !sameWheels(wholeWheel(laid), kept) {
			t.Fatalf("the wheel %v, or what lies behind it, is written into", w)
		}
	}
}

func TestWheelsAreLeftAlone(t *testing.T) {
	times := wheelTimes()
	for seed := range 200 {
		next := numbersFrom(uint64(9000 + seed))
		w := someWheel(times[next(len(times))], next(impl.MaxTimers+1), next)
		holdWheelMemory(t, w, next(1001))
		holdWheelMemory(t, someWheel(next(99000), 1, next), 1001)
	}
	holdWheelMemory(t, impl.NewWheel(), 0)
}

func TestBadWheelsAreLeftAlone(t *testing.T) {
	for _, w := range badWheels() {
		holdWheelMemory(t, w, 900)
	}
}

func TestSlotsBehindTheList(t *testing.T) {
	all := make([][]impl.Timer, 25)
	all[24] = []impl.Timer{{At: 1, Id: 1}}
	for length, want := range map[int]bool{23: false, 24: true, 25: false} {
		if got := impl.GoodWheel(impl.Wheel{Slots: all[:length]}); got != want {
			t.Error(length, got)
		}
	}
	if got, ok := impl.DropTimer(impl.Wheel{Slots: all[:24]}, 1); ok || !isZeroWheel(got) {
		t.Error("a timer behind the slots is dropped:", got, ok)
	}
	one := []impl.Timer{{At: 1, Id: 1}, {At: 1, Id: 2}}
	w := emptyWheel(0)
	w.Slots[1] = one[:1]
	if got, ok := impl.DropTimer(w, 2); ok || !isZeroWheel(got) {
		t.Error("a timer behind its slot is dropped:", got, ok)
	}
	if got, ok := impl.SetTimer(w, impl.Timer{At: 1, Id: 3}); !ok || len(got.Slots[1]) != 2 || one[1].Id != 2 {
		t.Error("a timer is set into the memory of an argument:", got, one)
	}
}
