package tests

import (
	"cmp"
	"slices"

	"loop.example/g00269/impl"
)

// Slots of the three levels are so many units long; wheelReach is the first distance that is too far.
var wheelUnits = []int{1, 8, 64}

const wheelReach = 512

// levelsByWords tells all levels in which a timer at a time may lie, the least first.
func levelsByWords(now int, at int) []int {
	var levels []int
	if now < 0 || now > 100000 || at <= now || at >= now+wheelReach {
		return nil
	}
	for level, unit := range wheelUnits {
		if more := at/unit - now/unit; more >= 1 && more <= 7 {
			levels = append(levels, level)
		}
	}
	return levels
}

func slotInLevel(level int, at int) int {
	return 8*level + at/wheelUnits[level]%8
}

func slotByWords(now int, at int) (int, bool) {
	levels := levelsByWords(now, at)
	if len(levels) == 0 {
		return 0, false
	}
	return slotInLevel(levels[0], at), true
}

func goodWheelByWords(w impl.Wheel) bool {
	if w.Now < 0 || w.Now > 100000 || len(w.Slots) != 24 {
		return false
	}
	var ids []int
	for slot, timers := range w.Slots {
		for _, timer := range timers {
			if timer.Id < 0 || timer.Id > 1000 || slices.Contains(ids, timer.Id) {
				return false
			}
			ids = append(ids, timer.Id)
			if !slices.Contains(levelsByWords(w.Now, timer.At), slot/8) || slotInLevel(slot/8, timer.At) != slot {
				return false
			}
		}
	}
	return len(ids) <= 60
}

func copyWheel(w impl.Wheel) impl.Wheel {
	other := impl.Wheel{Now: w.Now}
	for _, timers := range w.Slots {
		other.Slots = append(other.Slots, slices.Clone(timers))
	}
	return other
}

// sameWheels tells whether two wheels are the same, with empty lists and nil lists alike.
func sameWheels(a impl.Wheel, b impl.Wheel) bool {
	return a.Now == b.Now && slices.EqualFunc(a.Slots, b.Slots, slices.Equal[[]impl.Timer])
}

func isZeroWheel(w impl.Wheel) bool {
	return w.Now == 0 && len(w.Slots) == 0
}

// setByWords lays a timer behind those in its slot, as SetTimer does of a good wheel with room.
func setByWords(w impl.Wheel, timer impl.Timer) (impl.Wheel, bool) {
	slot, ok := slotByWords(w.Now, timer.At)
	if !ok {
		return impl.Wheel{}, false
	}
	next := copyWheel(w)
	next.Slots[slot] = append(next.Slots[slot], timer)
	return next, true
}

// dropByWords tells the wheel without the timers of an Id.
func dropByWords(w impl.Wheel, id int) impl.Wheel {
	next := impl.Wheel{Now: w.Now}
	for _, timers := range w.Slots {
		var left []impl.Timer
		for _, timer := range timers {
			if timer.Id != id {
				left = append(left, timer)
			}
		}
		next.Slots = append(next.Slots, left)
	}
	return next
}

// tickByWords does what the document says of a tick, word by word; it tells how many timers were moved, too.
func tickByWords(w impl.Wheel) (impl.Wheel, []int, int) {
	next := copyWheel(w)
	next.Now++
	var due []int
	moved := 0
	for _, level := range []int{2, 1} {
		if next.Now%wheelUnits[level] != 0 {
			continue
		}
		slot := slotInLevel(level, next.Now)
		left := next.Slots[slot]
		next.Slots[slot] = nil
		for _, timer := range left {
			if timer.At == next.Now {
				due = append(due, timer.Id)
				continue
			}
			next, _ = setByWords(next, timer)
			moved++
		}
	}
	for _, timer := range next.Slots[next.Now%8] {
		due = append(due, timer.Id)
	}
	next.Slots[next.Now%8] = nil
	slices.Sort(due)
	return next, due, moved
}

func advanceByWords(w impl.Wheel, to int) (impl.Wheel, []int, int) {
	next := copyWheel(w)
	var due []int
	work := 0
	for next.Now < to {
		later, ids, moved := tickByWords(next)
		due = append(due, ids...)
		work += moved + len(ids)
		next = later
	}
	return next, due, work
}

// timersByWords tells all timers, by At, then Id.
func timersByWords(w impl.Wheel) []impl.Timer {
	var all []impl.Timer
	for _, timers := range w.Slots {
		all = append(all, timers...)
	}
	slices.SortFunc(all, func(a impl.Timer, b impl.Timer) int {
		if a.At != b.At {
			return cmp.Compare(a.At, b.At)
		}
		return cmp.Compare(a.Id, b.Id)
	})
	return all
}

// emptyWheel is a wheel without timers at a time.
func emptyWheel(now int) impl.Wheel {
	return impl.Wheel{Now: now, Slots: make([][]impl.Timer, 24)}
}

// wheelOf is a wheel at a time with the timers of rows: slot, At, Id.
func wheelOf(now int, rows [][3]int) impl.Wheel {
	w := emptyWheel(now)
	for _, row := range rows {
		w.Slots[row[0]] = append(w.Slots[row[0]], impl.Timer{At: row[1], Id: row[2]})
	}
	return w
}

// someWheel makes a good wheel: timers in any level that reaches them, in any order, the far ones as often as the near ones.
func someWheel(now int, count int, next func(below int) int) impl.Wheel {
	w := emptyWheel(now)
	ids := someOrder(1001, next)
	for _, id := range ids[:count] {
		far := 1 + next([]int{7, 63, 511, 511}[next(4)])
		levels := levelsByWords(now, now+far)
		if len(levels) == 0 {
			levels, far = []int{0}, 1
		}
		slot := slotInLevel(levels[next(len(levels))], now+far)
		w.Slots[slot] = append(w.Slots[slot], impl.Timer{At: now + far, Id: id})
	}
	return w
}

// wheelTimes are times at which wheels are looked at: the bounds, and those around which slots of each level are emptied.
func wheelTimes() []int {
	return []int{0, 1, 6, 7, 8, 55, 56, 62, 63, 64, 100, 447, 448, 510, 511, 512, 1023, 50000, 99423, 99488, 99489, 99999, 100000}
}
