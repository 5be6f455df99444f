package tests

import (
	"slices"
	"testing"

	"loop.example/g00269/impl"
)

// planBehind lays wrong things behind each list of a plan.
func planBehind(l []impl.Task) []impl.Task {
	var laid []impl.Task
	for _, task := range l {
		laid = append(laid, impl.Task{Long: task.Long, Need: behind(task.Need)})
	}
	wrong := impl.Task{Long: -7, Need: []int{99}}
	return append(laid, wrong, wrong)[:len(l)]
}

// wholePlan copies all that lies in the memory of a plan, up to each capacity.
func wholePlan(l []impl.Task) [][]int {
	var all [][]int
	for _, task := range l[:cap(l)] {
		all = append(all, []int{task.Long}, slices.Clone(task.Need[:cap(task.Need)]))
	}
	return all
}

// slotsBehind lays wrong slots behind a list of them.
func slotsBehind(s []impl.Slot) []impl.Slot {
	wrong := impl.Slot{Task: -7, Worker: 99, From: -1}
	return append(slices.Clone(s), wrong, wrong)[:len(s)]
}

// planAnswers asks all functions of chapter 4 and tells each list of numbers that they answer; whether is told as a number.
func planAnswers(l []impl.Task, workers int, s []impl.Slot) [][]int {
	told := []int{0, 0, 0}
	if impl.GoodPlan(l) {
		told[0] = 1
	}
	if is, ok := impl.IsSchedule(l, workers, s); ok {
		told[1] = 1
		if is {
			told[1] = 2
		}
	}
	order, _ := impl.OrderOf(l)
	early, whole, _ := impl.EarliestOf(l)
	told[2] = whole
	late, _ := impl.LatestOf(l)
	slack, _ := impl.SlackOf(l)
	way, _ := impl.CriticalOf(l)
	all := [][]int{told, order, early, late, slack, way}
	for task := -1; task <= len(l); task++ {
		needs, _ := impl.NeedsAll(l, task)
		all = append(all, needs)
	}
	return all
}

// holdPlanMemory holds that no argument is changed, nothing behind one is read, and no answer shares memory with it or another list.
func holdPlanMemory(t *testing.T, l []impl.Task, workers int, s []impl.Slot) {
	t.Helper()
	want := planAnswers(l, workers, s)
	wantSlots, wantEnd, _ := impl.ScheduleOf(l, workers)
	laid, laidSlots := planBehind(l), slotsBehind(s)
	kept, keptSlots := wholePlan(laid), slices.Clone(laidSlots[:cap(laidSlots)])
	for range 2 {
		got := planAnswers(laid, workers, laidSlots)
		slots, end, _ := impl.ScheduleOf(laid, workers)
		if !sameLists(got, want) || end != wantEnd || !slices.Equal(slots, wantSlots) {
			t.Fatalf("%v, %d: what lies behind a list is read, or an answer was kept: %v, not %v", l, workers, got, want)
		}
		for i := range got {
			fillVec(got[i], -5)
			if i+1 < len(got) && !sameLists(got[i+1:], want[i+1:]) {
				t.Fatalf("%v: list %d of the answers shares memory with another one", l, i)
			}
		}
		for i := range slots[:cap(slots)] {
			slots[:cap(slots)][i] = impl.Slot{Task: -5, Worker: -5, From: -5}
		}
		if !sameLists(wholePlan(laid), kept) {
			t.Fatalf("the plan %v, or what lies behind it, is written into", l)
		}
		if !slices.Equal(laidSlots[:cap(laidSlots)], keptSlots) {
			t.Fatalf("the slots %v, or what lies behind them, are written into", s)
		}
	}
}

func TestPlansAreLeftAlone(t *testing.T) {
	for seed := range 150 {
		next := numbersFrom(uint64(5000 + seed))
		l := somePlan(next(impl.MaxTasks+1), 1+next(20), 1+next(8), next)
		workers := 1 + next(8)
		slots, _, _ := impl.ScheduleOf(l, workers)
		holdPlanMemory(t, l, workers, slots)
		holdPlanMemory(t, l, workers, inRow(l))
		holdPlanMemory(t, l, 0, slots)
	}
}

func TestBadPlansAreLeftAlone(t *testing.T) {
	for _, l := range badPlans() {
		holdPlanMemory(t, l, 2, inRow(l))
	}
}

func TestTasksBehindTheList(t *testing.T) {
	all := []impl.Task{{Long: 5}, {Long: 7}, {Long: 0, Need: []int{9}}}
	for length := range 3 {
		l := all[:length]
		if !impl.GoodPlan(l) {
			t.Error("a task behind the list's length is looked at")
		}
		if needs, ok := impl.NeedsAll(l, length); ok || len(needs) != 0 {
			t.Error("a task behind the list's length is asked for")
		}
	}
	// A need of a task that lies behind the list is a need of none.
	if needs := []impl.Task{{Long: 1, Need: []int{1}}, {Long: 1}}; impl.GoodPlan(needs[:1]) || !impl.GoodPlan(needs) {
		t.Error("a task behind the list's length may be needed")
	}
	slots := []impl.Slot{{Task: 0}, {Task: 1, From: 5}, {Task: 1, From: 90}}
	for length, want := range []bool{false, false, true, false} {
		if is, ok := impl.IsSchedule(all[:2], 1, slots[:length]); is != want || !ok {
			t.Error(length, is, ok)
		}
	}
}
