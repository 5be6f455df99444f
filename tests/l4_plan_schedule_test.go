package tests

import (
	"math"
	"slices"
	"testing"

	"loop.example/g00269/impl"
)

// slotsOf takes rows of a Task, a Worker and a From.
func slotsOf(rows [][3]int) []impl.Slot {
	var s []impl.Slot
	for _, row := range rows {
		s = append(s, impl.Slot{Task: row[0], Worker: row[1], From: row[2]})
	}
	return s
}

// inRow gives each task a slot, far behind one another.
func inRow(l []impl.Task) []impl.Slot {
	var s []impl.Slot
	for task := range l {
		s = append(s, impl.Slot{Task: task, From: 1000 * task})
	}
	return s
}

// holdSchedule holds the promise too: all is over when all work shared out and the longest way let it (Graham).
func holdSchedule(t *testing.T, l []impl.Task, workers int) []impl.Slot {
	t.Helper()
	wantSlots, wantEnd := scheduleByWords(l, workers)
	slots, end, ok := impl.ScheduleOf(l, workers)
	if !ok || end != wantEnd || !slices.Equal(slots, wantSlots) {
		t.Fatalf("ScheduleOf %v, %d: %v, %d, %v", l, workers, slots, end, ok)
	}
	if is, ok := impl.IsSchedule(l, workers, slots); !is || !ok {
		t.Fatalf("IsSchedule %v, %d, %v: %v, %v", l, workers, slots, is, ok)
	}
	_, whole, _ := impl.EarliestOf(l)
	work := 0
	for _, task := range l {
		work += task.Long
	}
	if workers*end > work+(workers-1)*whole || end < whole || workers*end < work {
		t.Fatalf("ScheduleOf %v, %d ends at %d: the work is %d, the longest way %d", l, workers, end, work, whole)
	}
	return slots
}

func holdIsSchedule(t *testing.T, l []impl.Task, workers int, s []impl.Slot) bool {
	t.Helper()
	want := isScheduleByWords(l, workers, s)
	if is, ok := impl.IsSchedule(l, workers, s); !ok || is != want {
		t.Fatalf("IsSchedule %v, %d, %v: %v, %v", l, workers, s, is, ok)
	}
	return want
}

func TestManySchedules(t *testing.T) {
	for seed := range 120 {
		next := numbersFrom(uint64(1000 + seed))
		tasks := next(impl.MaxTasks + 1)
		l := somePlan(tasks, []int{1, 2, 3, 20}[next(4)], 1+next(8), next)
		holdSchedule(t, l, 1+seed%8)
	}
	for _, workers := range []int{1, 2, 8} {
		holdSchedule(t, somePlan(impl.MaxTasks, 100, 6, numbersFrom(uint64(workers))), workers)
	}
}

func TestAsManyWorkersAsTasks(t *testing.T) {
	// Where no task has to wait for a worker, each begins at its earliest.
	for seed := range 200 {
		next := numbersFrom(uint64(2000 + seed))
		l := somePlan(next(9), 1+next(9), 1+next(4), next)
		early, whole, _ := impl.EarliestOf(l)
		slots, end, ok := impl.ScheduleOf(l, 8)
		if !ok || end != whole || len(slots) != len(l) {
			t.Fatalf("ScheduleOf %v: %v, %d, %v, the whole is %d", l, slots, end, ok, whole)
		}
		for _, s := range slots {
			if s.From != early[s.Task] {
				t.Fatalf("ScheduleOf %v: %v, the earliest are %v", l, slots, early)
			}
		}
	}
}

func TestWorkersInOrder(t *testing.T) {
	cases := []struct {
		l       []impl.Task
		workers int
		want    [][3]int
		end     int
	}{
		// Both free at the same time, behind tasks of one length; the first one takes the least.
		{[]impl.Task{{Long: 2}, {Long: 2}, {Long: 1}, {Long: 3}}, 2, [][3]int{{0, 0, 0}, {1, 1, 0}, {2, 0, 2}, {3, 1, 2}}, 5},
		// The second one is free first, and takes what may begin.
		{[]impl.Task{{Long: 3}, {Long: 1}, {Long: 1}}, 2, [][3]int{{0, 0, 0}, {1, 1, 0}, {2, 1, 1}}, 3},
		// More workers than tasks, and tasks that wait while workers are free.
		{[]impl.Task{{Long: 2}, {Long: 1, Need: []int{0}}}, 8, [][3]int{{0, 0, 0}, {1, 0, 2}}, 3},
		{[]impl.Task{{Long: 2}, {Long: 5}, {Long: 1, Need: []int{0}}, {Long: 1, Need: []int{0}}, {Long: 1, Need: []int{0}}}, 8, [][3]int{{0, 0, 0}, {1, 1, 0}, {2, 0, 2}, {3, 2, 2}, {4, 3, 2}}, 5},
		// The least that may begin is not the least that has not begun.
		{[]impl.Task{{Long: 1, Need: []int{2}}, {Long: 1, Need: []int{0}}, {Long: 2}, {Long: 3}}, 1, [][3]int{{2, 0, 0}, {0, 0, 2}, {1, 0, 3}, {3, 0, 4}}, 7},
		// No worker waits for a longer way: the whole could be over at 5.
		{[]impl.Task{{Long: 2}, {Long: 2}, {Long: 1}, {Long: 4, Need: []int{2}}}, 2, [][3]int{{0, 0, 0}, {1, 1, 0}, {2, 0, 2}, {3, 0, 3}}, 7},
	}
	for _, c := range cases {
		if slots, end, ok := impl.ScheduleOf(c.l, c.workers); !ok || end != c.end || !slices.Equal(slots, slotsOf(c.want)) {
			t.Errorf("ScheduleOf %v, %d: %v, %d, %v", c.l, c.workers, slots, end, ok)
		}
		holdSchedule(t, c.l, c.workers)
	}
}

func TestBadWorkers(t *testing.T) {
	l := []impl.Task{{Long: 1}, {Long: 2}}
	for _, workers := range []int{0, -1, -8, 9, 10, math.MinInt, math.MaxInt} {
		for _, plan := range [][]impl.Task{nil, l} {
			if slots, end, ok := impl.ScheduleOf(plan, workers); len(slots) != 0 || end != 0 || ok {
				t.Error(workers, slots, end, ok)
			}
			if is, ok := impl.IsSchedule(plan, workers, inRow(plan)); is || ok {
				t.Error(workers, is, ok)
			}
		}
	}
}

func TestEverySmallSchedule(t *testing.T) {
	plans := [][]impl.Task{
		{{Long: 1}}, {{Long: 2}},
		{{Long: 1}, {Long: 2}}, {{Long: 2}, {Long: 1, Need: []int{0}}}, {{Long: 1, Need: []int{1}}, {Long: 2}},
	}
	for _, l := range plans {
		for workers := 1; workers <= 2; workers++ {
			are := 0
			for length := range 4 {
				var most []int
				for range length {
					most = append(most, len(l)+1, workers+1, 4)
				}
				if length == 3 && len(l) == 2 {
					// Of three slots for two tasks Worker and From are left as they are but for one.
					most = []int{3, 0, 0, 3, 3, 4, 3, 0, 0}
				}
				everyCut(most, func(cut []int) {
					s := make([]impl.Slot, length)
					for i := range s {
						s[i] = impl.Slot{Task: cut[3*i] - 1, Worker: cut[3*i+1] - 1, From: cut[3*i+2] - 1}
					}
					if holdIsSchedule(t, l, workers, s) {
						are++
					}
				})
			}
			if are == 0 {
				t.Errorf("no schedule of %v was met", l)
			}
		}
	}
}

func TestSchedulesThatAreChanged(t *testing.T) {
	still, no := 0, 0
	for seed := range 200 {
		next := numbersFrom(uint64(4000 + seed))
		workers := 1 + next(8)
		l := somePlan(1+next(impl.MaxTasks), 1+next(10), 1+next(8), next)
		slots, _, _ := impl.ScheduleOf(l, workers)
		for range 10 {
			s := slices.Clone(slots)
			at := next(len(s))
			switch next(5) {
			case 0:
				s[at].From += next(5) - 2
			case 1:
				s[at].Worker = next(workers)
			case 2:
				other := next(len(s))
				s[at].Task, s[other].Task = s[other].Task, s[at].Task
			case 3:
				s[at].Task = next(len(l))
			case 4:
				s = append(s[:at], s[at+1:]...)
			}
			if holdIsSchedule(t, l, workers, s) {
				still++
			} else {
				no++
			}
		}
		// In which order the slots stand is all the same.
		turned := make([]impl.Slot, len(slots))
		for i, j := range someOrder(len(slots), next) {
			turned[i] = slots[j]
		}
		if is, ok := impl.IsSchedule(l, workers, turned); !is || !ok {
			t.Fatalf("IsSchedule %v, %d, %v: %v, %v", l, workers, turned, is, ok)
		}
		if workers > 1 {
			holdIsSchedule(t, l, workers-1, slots)
		}
	}
	if still == 0 || no == 0 {
		t.Error("all changed schedules are alike", still, no)
	}
}

// scheduleCase has its slots as rows of a Task, a Worker and a From.
type scheduleCase struct {
	l       []impl.Task
	workers int
	s       [][3]int
	is      bool
}

func (c scheduleCase) hold(t *testing.T) {
	t.Helper()
	if is, ok := impl.IsSchedule(c.l, c.workers, slotsOf(c.s)); is != c.is || !ok {
		t.Errorf("IsSchedule %v, %d, %v: %v, %v", c.l, c.workers, c.s, is, ok)
	}
	holdIsSchedule(t, c.l, c.workers, slotsOf(c.s))
}

func TestSlotsAtTheirBounds(t *testing.T) {
	one := []impl.Task{{Long: 100}}
	two := []impl.Task{{Long: 100}, {Long: 3}}
	cases := []scheduleCase{
		{one, 1, [][3]int{{0, 0, 0}}, true},
		{one, 1, [][3]int{{0, 0, 1000000}}, true},
		{one, 1, [][3]int{{0, 0, 1000001}}, false},
		{one, 1, [][3]int{{0, 0, -1}}, false},
		{one, 1, [][3]int{{0, 0, math.MaxInt}}, false},
		{one, 1, [][3]int{{0, 0, math.MinInt}}, false},
		{one, 8, [][3]int{{0, 7, 0}}, true},
		{one, 8, [][3]int{{0, 8, 0}}, false},
		{one, 1, [][3]int{{0, 1, 0}}, false},
		{one, 1, [][3]int{{0, -1, 0}}, false},
		{one, 1, [][3]int{{0, math.MaxInt, 0}}, false},
		{one, 1, [][3]int{{0, math.MinInt, 0}}, false},
		{one, 1, [][3]int{{1, 0, 0}}, false},
		{one, 1, [][3]int{{-1, 0, 0}}, false},
		{one, 1, [][3]int{{math.MaxInt, 0, 0}}, false},
		{one, 1, [][3]int{{math.MinInt, 0, 0}}, false},
		// No slot, two of one task, and one of no task beside the good one.
		{one, 1, nil, false},
		{one, 1, [][3]int{{0, 0, 0}, {0, 0, 100}}, false},
		{one, 2, [][3]int{{0, 0, 0}, {0, 0, 0}}, false},
		{one, 2, [][3]int{{0, 0, 0}, {1, 1, 0}}, false},
		{one, 2, [][3]int{{0, 0, 0}, {-1, 1, 0}}, false},
		{two, 1, [][3]int{{0, 0, 0}}, false},
		{two, 2, [][3]int{{1, 0, 0}, {1, 1, 0}}, false},
	}
	for _, c := range cases {
		c.hold(t)
	}
}

func TestSlotsThatMeet(t *testing.T) {
	two := []impl.Task{{Long: 100}, {Long: 3}}
	needs := []impl.Task{{Long: 100, Need: []int{1}}, {Long: 3}}
	cases := []scheduleCase{
		// Two of one worker that meet, in both orders, and by one unit of time more and less.
		{two, 1, [][3]int{{0, 0, 0}, {1, 0, 100}}, true},
		{two, 1, [][3]int{{0, 0, 0}, {1, 0, 99}}, false},
		{two, 1, [][3]int{{1, 0, 0}, {0, 0, 3}}, true},
		{two, 1, [][3]int{{0, 0, 3}, {1, 0, 0}}, true},
		{two, 1, [][3]int{{0, 0, 2}, {1, 0, 0}}, false},
		{two, 1, [][3]int{{0, 0, 5}, {1, 0, 0}}, true},
		// One that lies within another, and both at one time.
		{two, 1, [][3]int{{0, 0, 0}, {1, 0, 50}}, false},
		{two, 1, [][3]int{{0, 0, 7}, {1, 0, 7}}, false},
		{two, 2, [][3]int{{0, 0, 7}, {1, 1, 7}}, true},
		{two, 1, [][3]int{{0, 0, 1000000}, {1, 0, 999997}}, true},
		{two, 1, [][3]int{{0, 0, 1000000}, {1, 0, 999998}}, false},
		{two, 2, [][3]int{{0, 0, 1000000}, {1, 1, 1000000}}, true},
		// What is needed is over just then, a unit too late, long ago, or of another worker.
		{needs, 1, [][3]int{{0, 0, 3}, {1, 0, 0}}, true},
		{needs, 2, [][3]int{{0, 1, 3}, {1, 0, 0}}, true},
		{needs, 2, [][3]int{{0, 1, 2}, {1, 0, 0}}, false},
		{needs, 2, [][3]int{{0, 1, 0}, {1, 0, 0}}, false},
		{needs, 1, [][3]int{{0, 0, 0}, {1, 0, 100}}, false},
		{needs, 2, [][3]int{{0, 0, 1000000}, {1, 1, 0}}, true},
		{needs, 2, [][3]int{{0, 0, 1000000}, {1, 1, 999998}}, false},
	}
	for _, c := range cases {
		c.hold(t)
	}
}

func TestJustMaxSlots(t *testing.T) {
	most := slices.Repeat([]impl.Task{{Long: 1}}, impl.MaxTasks)
	if is, ok := impl.IsSchedule(most, 1, inRow(most)); !is || !ok {
		t.Error(is, ok)
	}
	for _, l := range [][]impl.Task{nil, most[:1], most[:impl.MaxTasks-1], most} {
		if is, ok := impl.IsSchedule(l, 1, make([]impl.Slot, impl.MaxTasks)); is || !ok {
			t.Error(len(l), is, ok)
		}
		for _, count := range []int{impl.MaxTasks + 1, 1000} {
			s := append(inRow(l), make([]impl.Slot, count-len(l))...)
			if is, ok := impl.IsSchedule(l, 1, s); is || ok {
				t.Error(len(l), count, is, ok)
			}
		}
	}
}
