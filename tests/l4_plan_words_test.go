package tests

import (
	"slices"

	"loop.example/g00269/impl"
)

// What the document's words say of plans, gone over as they stand, again and again until nothing is new.

// neededByWords tells of each task which ones it needs, also by way of others.
func neededByWords(l []impl.Task) [][]bool {
	needed := make([][]bool, len(l))
	for task, t := range l {
		needed[task] = make([]bool, len(l))
		for _, need := range t.Need {
			needed[task][need] = true
		}
	}
	for between := range l {
		for task := range l {
			for need := range l {
				if needed[task][between] && needed[between][need] {
					needed[task][need] = true
				}
			}
		}
	}
	return needed
}

// needsNoneOfItself takes tasks that are within their bounds.
func needsNoneOfItself(l []impl.Task) bool {
	for task, needs := range neededByWords(l) {
		if needs[task] {
			return false
		}
	}
	return true
}

func orderByWords(l []impl.Task) []int {
	needed := neededByWords(l)
	var order []int
	mayCome := func(task int) bool {
		for need := range l {
			if needed[task][need] && !slices.Contains(order, need) {
				return false
			}
		}
		return !slices.Contains(order, task)
	}
	for len(order) < len(l) {
		task := 0
		for !mayCome(task) {
			task++
		}
		order = append(order, task)
	}
	return order
}

// earliestByWords puts each task later as long as one begins ahead of the end of what it needs.
func earliestByWords(l []impl.Task) ([]int, int) {
	begins := make([]int, len(l))
	for moved := true; moved; {
		moved = false
		for task, t := range l {
			for _, need := range t.Need {
				if begins[task] < begins[need]+l[need].Long {
					begins[task] = begins[need] + l[need].Long
					moved = true
				}
			}
		}
	}
	whole := 0
	for task, t := range l {
		whole = max(whole, begins[task]+t.Long)
	}
	return begins, whole
}

// latestByWords puts each task earlier as long as one ends behind the beginning of what needs it.
func latestByWords(l []impl.Task, whole int) []int {
	begins := make([]int, len(l))
	for task, t := range l {
		begins[task] = whole - t.Long
	}
	for moved := true; moved; {
		moved = false
		for task, t := range l {
			for _, need := range t.Need {
				if begins[need]+l[need].Long > begins[task] {
					begins[need] = begins[task] - l[need].Long
					moved = true
				}
			}
		}
	}
	return begins
}

// everyWay hands each way that begins with a task that needs none to use, with its length.
func everyWay(l []impl.Task, use func(way []int, long int)) {
	var from func(way []int, long int)
	from = func(way []int, long int) {
		use(way, long)
		for task, t := range l {
			if slices.Contains(t.Need, way[len(way)-1]) {
				from(append(slices.Clone(way), task), long+t.Long)
			}
		}
	}
	for task, t := range l {
		if len(t.Need) == 0 {
			from([]int{task}, t.Long)
		}
	}
}

// criticalByWords looks at all ways, so it takes plans with few of them alone.
func criticalByWords(l []impl.Task, whole int) []int {
	var least []int
	everyWay(l, func(way []int, long int) {
		if long == whole && (least == nil || slices.Compare(way, least) < 0) {
			least = way
		}
	})
	return least
}

// leastLongest tells of each task the least of the longest ways that begin with it, made from the last tasks on.
func leastLongest(l []impl.Task, order []int) ([][]int, []int) {
	ways := make([][]int, len(l))
	longs := make([]int, len(l))
	for _, task := range slices.Backward(order) {
		ways[task], longs[task] = []int{task}, l[task].Long
		for next, t := range l {
			if !slices.Contains(t.Need, task) {
				continue
			}
			way, long := append([]int{task}, ways[next]...), l[task].Long+longs[next]
			if long > longs[task] || long == longs[task] && slices.Compare(way, ways[task]) < 0 {
				ways[task], longs[task] = way, long
			}
		}
	}
	return ways, longs
}

// scheduleByWords goes through all times, and at each one through all workers.
func scheduleByWords(l []impl.Task, workers int) ([]impl.Slot, int) {
	needed := neededByWords(l)
	var slots []impl.Slot
	over := func(task int, now int) bool {
		return slices.ContainsFunc(slots, func(s impl.Slot) bool { return s.Task == task && s.From+l[task].Long <= now })
	}
	mayBegin := func(task int, now int) bool {
		for need := range l {
			if needed[task][need] && !over(need, now) {
				return false
			}
		}
		return !slices.ContainsFunc(slots, func(s impl.Slot) bool { return s.Task == task })
	}
	atWork := func(worker int, now int) bool {
		return slices.ContainsFunc(slots, func(s impl.Slot) bool { return s.Worker == worker && now < s.From+l[s.Task].Long })
	}
	now := 0
	for ; len(slots) < len(l) || slices.ContainsFunc(slots, func(s impl.Slot) bool { return !over(s.Task, now) }); now++ {
		for worker := range workers {
			for task := range l {
				if !atWork(worker, now) && mayBegin(task, now) {
					slots = append(slots, impl.Slot{Task: task, Worker: worker, From: now})
				}
			}
		}
	}
	return slots, now
}

// isScheduleByWords takes a good plan and writes each unit of work down.
func isScheduleByWords(l []impl.Task, workers int, s []impl.Slot) bool {
	type unit struct{ worker, time int }
	works := map[unit]bool{}
	many := make([]int, len(l))
	for _, slot := range s {
		if slot.Task < 0 || slot.Task >= len(l) || slot.Worker < 0 || slot.Worker >= workers || slot.From < 0 || slot.From > 1000000 {
			return false
		}
		many[slot.Task]++
		for time := range l[slot.Task].Long {
			at := unit{slot.Worker, slot.From + time}
			if works[at] {
				return false
			}
			works[at] = true
		}
	}
	for _, n := range many {
		if n != 1 {
			return false
		}
	}
	for _, first := range s {
		for _, then := range s {
			if slices.Contains(l[then.Task].Need, first.Task) && then.From < first.From+l[first.Task].Long {
				return false
			}
		}
	}
	return true
}

// numbersWithout tells the numbers whose bits are 1, as if the one left out were not there.
func numbersWithout(bits int, count int, left int) []int {
	var l []int
	for _, n := range placesIn(bits, count-1) {
		if n >= left {
			n++
		}
		l = append(l, n)
	}
	return l
}

// everyPlan hands each list of tasks with Longs of 1 up to longest to use, those too in which one needs itself by way of others.
func everyPlan(tasks int, longest int, use func(l []impl.Task)) {
	var kinds []int
	for range tasks {
		kinds = append(kinds, 1<<(tasks-1)-1, longest-1)
	}
	everyCut(kinds, func(kinds []int) {
		l := make([]impl.Task, tasks)
		for task := range l {
			l[task] = impl.Task{Long: kinds[2*task+1] + 1, Need: numbersWithout(kinds[2*task], tasks, task)}
		}
		use(l)
	})
}

// someOrder tells the numbers below count in some order.
func someOrder(count int, next func(below int) int) []int {
	order := make([]int, count)
	for i := range order {
		j := next(i + 1)
		order[i] = order[j]
		order[j] = i
	}
	return order
}

// somePlan makes a good plan in which a task needs about one of so many of those that stand ahead in some order.
func somePlan(tasks int, longest int, oneOf int, next func(below int) int) []impl.Task {
	l := make([]impl.Task, tasks)
	order := someOrder(tasks, next)
	for i, task := range order {
		l[task].Long = 1 + next(longest)
		for _, need := range order[:i] {
			if next(oneOf) == 0 {
				l[task].Need = append(l[task].Need, need)
			}
		}
		slices.Sort(l[task].Need)
	}
	return l
}
