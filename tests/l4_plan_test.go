package tests

import (
	"math"
	"slices"
	"testing"

	"loop.example/g00269/impl"
)

// holdTimes holds what is told of a good plan's order and times against the document's words.
func holdTimes(t *testing.T, l []impl.Task) {
	t.Helper()
	if !impl.GoodPlan(l) {
		t.Fatalf("GoodPlan refuses %v", l)
	}
	if order, ok := impl.OrderOf(l); !ok || !slices.Equal(order, orderByWords(l)) {
		t.Fatalf("OrderOf %v: %v, %v", l, order, ok)
	}
	wantEarly, wantWhole := earliestByWords(l)
	early, whole, ok := impl.EarliestOf(l)
	if !ok || whole != wantWhole || !slices.Equal(early, wantEarly) {
		t.Fatalf("EarliestOf %v: %v, %d, %v", l, early, whole, ok)
	}
	wantLate := latestByWords(l, wantWhole)
	late, ok := impl.LatestOf(l)
	if !ok || !slices.Equal(late, wantLate) {
		t.Fatalf("LatestOf %v: %v, %v", l, late, ok)
	}
	wantSlack := make([]int, len(l))
	for task := range l {
		wantSlack[task] = wantLate[task] - wantEarly[task]
	}
	if slack, ok := impl.SlackOf(l); !ok || !slices.Equal(slack, wantSlack) {
		t.Fatalf("SlackOf %v: %v, %v", l, slack, ok)
	}
	holdEarliest(t, l, early, whole)
}

// holdEarliest holds the promise: each task begins with what it needs over, and right behind one of these, or at 0.
func holdEarliest(t *testing.T, l []impl.Task, early []int, whole int) {
	t.Helper()
	last := 0
	for task, begin := range early {
		held := begin == 0
		for _, need := range l[task].Need {
			end := early[need] + l[need].Long
			if begin < end {
				t.Fatalf("%v: task %d begins at %d, what it needs is over at %d", l, task, begin, end)
			}
			held = held || begin == end
		}
		if !held {
			t.Fatalf("%v: task %d can begin earlier than at %d", l, task, begin)
		}
		last = max(last, begin+l[task].Long)
	}
	if whole != last {
		t.Fatalf("%v is over at %d, not at %d", l, last, whole)
	}
}

// holdWay holds the promise: a longest way is as long as the whole; and that of several the least is told.
func holdWay(t *testing.T, l []impl.Task) {
	t.Helper()
	_, whole, _ := impl.EarliestOf(l)
	way, ok := impl.CriticalOf(l)
	if !ok || len(way) == 0 != (len(l) == 0) {
		t.Fatalf("CriticalOf %v: %v, %v", l, way, ok)
	}
	slack, _ := impl.SlackOf(l)
	long := 0
	for i, task := range way {
		if i == 0 && len(l[task].Need) != 0 || i > 0 && !slices.Contains(l[task].Need, way[i-1]) {
			t.Fatalf("CriticalOf %v: %v is no way", l, way)
		}
		if slack[task] != 0 {
			t.Fatalf("CriticalOf %v: %v, but task %d may be late by %d", l, way, task, slack[task])
		}
		long += l[task].Long
	}
	if long != whole {
		t.Fatalf("CriticalOf %v: %v is %d long, the whole %d", l, way, long, whole)
	}
	ways, longs := leastLongest(l, orderByWords(l))
	for task, other := range ways {
		if len(l[task].Need) == 0 && longs[task] == whole && slices.Compare(other, way) < 0 {
			t.Fatalf("CriticalOf %v: %v, not %v", l, way, other)
		}
		if longs[task] > whole {
			t.Fatalf("%v: %v is longer than the whole, %d", l, other, whole)
		}
	}
}

func holdNeeds(t *testing.T, l []impl.Task) {
	t.Helper()
	for task, needed := range neededByWords(l) {
		var want []int
		for other := range l {
			if needed[other] {
				want = append(want, other)
			}
		}
		if all, ok := impl.NeedsAll(l, task); !ok || !slices.Equal(all, want) {
			t.Fatalf("NeedsAll %v, %d: %v, %v", l, task, all, ok)
		}
	}
}

// holdPlanRefused holds that each function tells the zero answer of a plan that is not good.
func holdPlanRefused(t *testing.T, l []impl.Task) {
	t.Helper()
	if impl.GoodPlan(l) {
		t.Fatalf("GoodPlan takes %v", l)
	}
	for name, tell := range map[string]func([]impl.Task) ([]int, bool){
		"OrderOf": impl.OrderOf, "LatestOf": impl.LatestOf, "SlackOf": impl.SlackOf, "CriticalOf": impl.CriticalOf,
	} {
		if got, ok := tell(l); len(got) != 0 || ok {
			t.Fatalf("%s %v: %v, %v", name, l, got, ok)
		}
	}
	if early, whole, ok := impl.EarliestOf(l); len(early) != 0 || whole != 0 || ok {
		t.Fatalf("EarliestOf %v: %v, %d, %v", l, early, whole, ok)
	}
	for _, n := range []int{math.MinInt, -1, 0, 1, 2, 8, impl.MaxTasks, math.MaxInt} {
		if slots, end, ok := impl.ScheduleOf(l, n); len(slots) != 0 || end != 0 || ok {
			t.Fatalf("ScheduleOf %v, %d: %v, %d, %v", l, n, slots, end, ok)
		}
		if all, ok := impl.NeedsAll(l, n); len(all) != 0 || ok {
			t.Fatalf("NeedsAll %v, %d: %v, %v", l, n, all, ok)
		}
		for _, s := range [][]impl.Slot{nil, {{}}, inRow(l)} {
			if is, ok := impl.IsSchedule(l, n, s); is || ok {
				t.Fatalf("IsSchedule %v, %d, %v: %v, %v", l, n, s, is, ok)
			}
		}
	}
}

func TestEverySmallPlan(t *testing.T) {
	good, several := 0, 0
	for _, size := range []struct{ tasks, longest int }{{0, 1}, {1, 3}, {2, 3}, {3, 3}, {4, 2}} {
		everyPlan(size.tasks, size.longest, func(l []impl.Task) {
			if !needsNoneOfItself(l) {
				holdPlanRefused(t, l)
				return
			}
			good++
			holdTimes(t, l)
			holdWay(t, l)
			holdNeeds(t, l)
			_, whole, _ := impl.EarliestOf(l)
			if way, _ := impl.CriticalOf(l); !slices.Equal(way, criticalByWords(l, whole)) {
				t.Fatalf("CriticalOf %v: %v", l, way)
			}
			ways := 0
			everyWay(l, func(way []int, long int) {
				if long == whole {
					ways++
				}
			})
			if ways > 1 {
				several++
			}
			for workers := 1; workers <= 4; workers++ {
				holdSchedule(t, l, workers)
			}
		})
	}
	if good == 0 || several == 0 {
		t.Error("no plan, or none with several longest ways, was met", good, several)
	}
}

func TestManyPlans(t *testing.T) {
	for seed := range 400 {
		next := numbersFrom(uint64(seed))
		tasks := next(impl.MaxTasks + 1)
		if seed%8 == 0 {
			tasks = impl.MaxTasks
		}
		// Few lengths make many ways of one length.
		l := somePlan(tasks, []int{1, 2, 3, 100}[next(4)], 1+next(8), next)
		holdTimes(t, l)
		holdWay(t, l)
		holdNeeds(t, l)
	}
}

func TestNoTasks(t *testing.T) {
	for _, l := range [][]impl.Task{nil, {}} {
		holdTimes(t, l)
		holdWay(t, l)
		if early, whole, ok := impl.EarliestOf(l); len(early) != 0 || whole != 0 || !ok {
			t.Error(early, whole, ok)
		}
		for _, workers := range []int{1, 8} {
			if slots, end, ok := impl.ScheduleOf(l, workers); len(slots) != 0 || end != 0 || !ok {
				t.Error(slots, end, ok)
			}
			for _, s := range [][]impl.Slot{nil, {}} {
				if is, ok := impl.IsSchedule(l, workers, s); !is || !ok {
					t.Error(is, ok)
				}
			}
			if is, ok := impl.IsSchedule(l, workers, []impl.Slot{{}}); is || !ok {
				t.Error(is, ok)
			}
		}
		if all, ok := impl.NeedsAll(l, 0); len(all) != 0 || ok {
			t.Error(all, ok)
		}
	}
}

func TestOneTask(t *testing.T) {
	for _, long := range []int{1, 2, 100} {
		for _, need := range [][]int{nil, {}} {
			l := []impl.Task{{Long: long, Need: need}}
			holdTimes(t, l)
			holdWay(t, l)
			holdNeeds(t, l)
			if early, whole, ok := impl.EarliestOf(l); whole != long || !slices.Equal(early, []int{0}) || !ok {
				t.Error(early, whole, ok)
			}
			for workers := 1; workers <= 8; workers++ {
				if slots := holdSchedule(t, l, workers); !slices.Equal(slots, []impl.Slot{{}}) {
					t.Error(slots)
				}
			}
		}
	}
}

func TestLongestPlans(t *testing.T) {
	// Each needs the one with the next number, so that the last one comes first.
	row := make([]impl.Task, impl.MaxTasks)
	all := make([]impl.Task, impl.MaxTasks)
	for task := range row {
		row[task].Long = 100
		all[task].Long = 100
		for need := task + 1; need < impl.MaxTasks; need++ {
			all[task].Need = append(all[task].Need, need)
		}
		row[task].Need = slices.Clone(all[task].Need[:min(1, len(all[task].Need))])
	}
	for _, l := range [][]impl.Task{row, all} {
		holdTimes(t, l)
		holdWay(t, l)
		holdNeeds(t, l)
		want := make([]int, impl.MaxTasks)
		for i := range want {
			want[i] = impl.MaxTasks - 1 - i
		}
		if order, ok := impl.OrderOf(l); !ok || !slices.Equal(order, want) {
			t.Error(order, ok)
		}
		if way, ok := impl.CriticalOf(l); !ok || !slices.Equal(way, want) {
			t.Error(way, ok)
		}
		if _, whole, ok := impl.EarliestOf(l); !ok || whole != 3000 {
			t.Error(whole, ok)
		}
		for _, workers := range []int{1, 8} {
			slots, end, ok := impl.ScheduleOf(l, workers)
			if !ok || end != 3000 || len(slots) != impl.MaxTasks || slots[29] != (impl.Slot{Task: 0, From: 2900}) {
				t.Error(slots, end, ok)
			}
		}
		if needs, ok := impl.NeedsAll(l, 0); !ok || len(needs) != impl.MaxTasks-1 || needs[0] != 1 {
			t.Error(needs, ok)
		}
		holdPlanRefused(t, append(slices.Clone(l), impl.Task{Long: 1}))
	}
	free := slices.Repeat([]impl.Task{{Long: 100}}, impl.MaxTasks)
	for _, c := range []struct{ workers, end int }{{1, 3000}, {2, 1500}, {7, 500}, {8, 400}} {
		if _, end, ok := impl.ScheduleOf(free, c.workers); !ok || end != c.end {
			t.Error(c, end, ok)
		}
	}
}

func TestNamedPlan(t *testing.T) {
	// Tasks that need later ones, two ways of one length, and one task with nothing to do with the others.
	l := []impl.Task{
		{Long: 2, Need: []int{3, 4}}, {Long: 4, Need: []int{3}}, {Long: 1}, {Long: 3}, {Long: 5, Need: []int{2}}, {Long: 2, Need: []int{1}}, {Long: 1, Need: []int{0}}, {Long: 4},
	}
	holdTimes(t, l)
	order, _ := impl.OrderOf(l)
	early, whole, _ := impl.EarliestOf(l)
	late, _ := impl.LatestOf(l)
	slack, _ := impl.SlackOf(l)
	way, _ := impl.CriticalOf(l)
	needs, _ := impl.NeedsAll(l, 6)
	want := [][]int{
		{2, 3, 1, 4, 0, 5, 6, 7}, {6, 3, 0, 0, 1, 7, 8, 0}, {6, 3, 0, 0, 1, 7, 8, 5}, {0, 0, 0, 0, 0, 0, 0, 5}, {2, 4, 0, 6}, {0, 2, 3, 4},
	}
	if got := [][]int{order, early, late, slack, way, needs}; !sameLists(got, want) || whole != 9 {
		t.Error(got, whole)
	}
	slots, end, ok := impl.ScheduleOf(l, 2)
	wantSlots := [][3]int{{2, 0, 0}, {3, 1, 0}, {4, 0, 1}, {1, 1, 3}, {0, 0, 6}, {5, 1, 7}, {6, 0, 8}, {7, 0, 9}}
	if !ok || end != 13 || !slices.Equal(slots, slotsOf(wantSlots)) {
		t.Error(slots, end, ok)
	}
}

func TestLeastLongestWay(t *testing.T) {
	cases := []struct {
		l    []impl.Task
		want []int
	}{
		// Several alone, and the longest of them.
		{[]impl.Task{{Long: 2}, {Long: 2}}, []int{0}},
		{[]impl.Task{{Long: 2}, {Long: 3}, {Long: 3}}, []int{1}},
		// The first one decides, not how many there are.
		{[]impl.Task{{Long: 1, Need: []int{2}}, {Long: 3}, {Long: 2}}, []int{1}},
		{[]impl.Task{{Long: 1}, {Long: 3}, {Long: 2, Need: []int{0}}}, []int{0, 2}},
		// A least task that is not on a longest way, and one that is, but not behind the one ahead.
		{[]impl.Task{{Long: 1}, {Long: 2}, {Long: 1, Need: []int{0}}, {Long: 1, Need: []int{1}}}, []int{1, 3}},
		{[]impl.Task{{Long: 2, Need: []int{2}}, {Long: 1}, {Long: 1}, {Long: 2, Need: []int{1}}}, []int{1, 3}},
		// Parting in the middle, where the least goes on to the whole.
		{[]impl.Task{{Long: 1}, {Long: 1, Need: []int{0}}, {Long: 2, Need: []int{0}}, {Long: 2, Need: []int{1}}, {Long: 1, Need: []int{2}}}, []int{0, 1, 3}},
		{[]impl.Task{{Long: 1}, {Long: 1, Need: []int{0}}, {Long: 2, Need: []int{0}}, {Long: 1, Need: []int{1, 2}}}, []int{0, 2, 3}},
		// A need at once that goes by way of another one, too.
		{[]impl.Task{{Long: 1}, {Long: 1, Need: []int{0, 2}}, {Long: 1, Need: []int{0}}}, []int{0, 2, 1}},
	}
	for _, c := range cases {
		if way, ok := impl.CriticalOf(c.l); !ok || !slices.Equal(way, c.want) {
			t.Errorf("CriticalOf %v: %v, %v", c.l, way, ok)
		}
		holdWay(t, c.l)
	}
}

func TestLeastThatMayCome(t *testing.T) {
	cases := []struct {
		l    []impl.Task
		want []int
	}{
		{[]impl.Task{{Long: 1}, {Long: 1}, {Long: 1}}, []int{0, 1, 2}},
		{[]impl.Task{{Long: 1, Need: []int{2}}, {Long: 1}, {Long: 1}}, []int{1, 2, 0}},
		{[]impl.Task{{Long: 1, Need: []int{1}}, {Long: 1, Need: []int{3}}, {Long: 1}, {Long: 1}, {Long: 1}}, []int{2, 3, 1, 0, 4}},
		// What is long or over late comes no later for it.
		{[]impl.Task{{Long: 100}, {Long: 1, Need: []int{0}}, {Long: 1}}, []int{0, 1, 2}},
	}
	for _, c := range cases {
		if order, ok := impl.OrderOf(c.l); !ok || !slices.Equal(order, c.want) {
			t.Errorf("OrderOf %v: %v, %v", c.l, order, ok)
		}
	}
}

func TestBadNumbersOfTasks(t *testing.T) {
	l := []impl.Task{{Long: 1}, {Long: 2, Need: []int{0}}}
	for _, task := range []int{-1, 2, 3, impl.MaxTasks, math.MinInt, math.MaxInt} {
		if all, ok := impl.NeedsAll(l, task); len(all) != 0 || ok {
			t.Error(task, all, ok)
		}
	}
}

func TestListsOfNeeds(t *testing.T) {
	const tasks = 3
	for length := range 5 {
		values := slices.Repeat([]int{tasks + 1}, length)
		everyCut(values, func(cut []int) {
			need := make([]int, length)
			for i, n := range cut {
				need[i] = n - 1
			}
			for task := range tasks {
				good := true
				for i, n := range need {
					good = good && n >= 0 && n < tasks && n != task && (i == 0 || need[i-1] < n)
				}
				l := slices.Repeat([]impl.Task{{Long: 1}}, tasks)
				l[task].Need = need
				if impl.GoodPlan(l) != good {
					t.Fatalf("GoodPlan %v: %v", l, !good)
				}
			}
		})
	}
}

func badPlans() [][]impl.Task {
	var bad [][]impl.Task
	with := func(task int, changed impl.Task) {
		l := []impl.Task{{Long: 2}, {Long: 1, Need: []int{0}}, {Long: 3, Need: []int{0, 1}}}
		l[task] = changed
		bad = append(bad, l)
	}
	for _, long := range []int{0, -1, -100, 101, 102, math.MinInt, math.MaxInt} {
		with(0, impl.Task{Long: long})
		with(1, impl.Task{Long: long, Need: []int{0}})
		with(2, impl.Task{Long: long})
		bad = append(bad, []impl.Task{{Long: long}})
	}
	for _, n := range []int{-1, -2, 3, 4, impl.MaxTasks, math.MinInt, math.MaxInt} {
		for _, need := range [][]int{{n}, {0, n}, {n, 0}, {n, 1}, {n, n}} {
			with(2, impl.Task{Long: 1, Need: need})
		}
		with(0, impl.Task{Long: 1, Need: []int{n}})
	}
	for _, need := range [][]int{{1, 0}, {0, 0}, {1, 1}, {0, 1, 1}, {0, 0, 1}, {0, 1, 0}} {
		with(2, impl.Task{Long: 1, Need: need})
	}
	// Tasks that need themselves, at once and by way of one and of two others.
	for task := range 3 {
		with(task, impl.Task{Long: 1, Need: []int{task}})
		with(task, impl.Task{Long: 1, Need: []int{0, 1, 2}})
	}
	with(0, impl.Task{Long: 1, Need: []int{1}})
	with(0, impl.Task{Long: 1, Need: []int{2}})
	bad = append(bad, []impl.Task{{Long: 1, Need: []int{0}}}, []impl.Task{{Long: 1, Need: []int{2}}, {Long: 1, Need: []int{0}}, {Long: 1, Need: []int{1}}})
	bad = append(bad, []impl.Task{{Long: 1}, {Long: 1, Need: []int{2}}, {Long: 1, Need: []int{1}}, {Long: 1}})
	bad = append(bad, slices.Repeat([]impl.Task{{Long: 1}}, impl.MaxTasks+1), make([]impl.Task, 1), make([]impl.Task, 1000))
	ring := make([]impl.Task, impl.MaxTasks)
	for task := range ring {
		ring[task] = impl.Task{Long: 1, Need: []int{(task + 1) % impl.MaxTasks}}
	}
	return append(bad, ring)
}

func TestBadPlans(t *testing.T) {
	for _, l := range badPlans() {
		holdPlanRefused(t, l)
	}
}

func TestRings(t *testing.T) {
	// One need more, from the front of a good plan's order to its end, and a ring is there where a way was.
	rings := 0
	for seed := range 300 {
		next := numbersFrom(uint64(3000 + seed))
		l := somePlan(2+next(impl.MaxTasks-1), 5, 1+next(10), next)
		task, need := next(len(l)), next(len(l))
		if task == need || slices.Contains(l[task].Need, need) {
			continue
		}
		l[task].Need = append(slices.Clone(l[task].Need), need)
		slices.Sort(l[task].Need)
		if needsNoneOfItself(l) {
			holdTimes(t, l)
		} else {
			rings++
			holdPlanRefused(t, l)
		}
	}
	if rings == 0 {
		t.Error("no ring was met")
	}
}
