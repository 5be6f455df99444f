package tests

import (
	"math"
	"math/big"
	"slices"

	"loop.example/g00269/impl"
)

// What the document's words say of waits and breakers, each of them on its own.

// Numbers that lie far from all bounds.
var farNumbers = []int{math.MinInt, math.MinInt + 1, -1 << 32, -1000000, 1 << 32, 1<<32 + 1, math.MaxInt - 1, math.MaxInt}

func goodPolicyByWords(p impl.Policy) bool {
	return p.First >= 1 && p.First <= 1000 && p.Times >= 1 && p.Times <= 10 && p.Most >= p.First && p.Most <= 1000000 && p.Tries >= 1 && p.Tries <= 40
}

// waitByWords takes a good policy and one of its tries; the power is made whole, however great it is.
func waitByWords(p impl.Policy, try int) int {
	power := new(big.Int).Exp(big.NewInt(int64(p.Times)), big.NewInt(int64(try-1)), nil)
	wait := power.Mul(power, big.NewInt(int64(p.First)))
	if wait.Cmp(big.NewInt(int64(p.Most))) > 0 {
		return p.Most
	}
	return int(wait.Int64())
}

func goodBreakerByWords(b impl.Breaker) bool {
	if b.Limit < 1 || b.Limit > 20 || b.Cool < 1 || b.Cool > 10000 || b.Opened < 0 || b.Opened > 1000000 {
		return false
	}
	if b.State == impl.BreakClosed {
		return b.Fails >= 0 && b.Fails < b.Limit && b.Opened == 0
	}
	return (b.State == impl.BreakOpen || b.State == impl.BreakHalf) && b.Fails == b.Limit
}

// callByWords takes a good breaker and a call of a good Now.
func callByWords(b impl.Breaker, c impl.Call) (impl.Breaker, bool) {
	if b.State == impl.BreakOpen && c.Now < b.Opened+b.Cool {
		return b, false
	}
	if b.State == impl.BreakOpen {
		b.State = impl.BreakHalf
	}
	switch {
	case c.Fine:
		b.State, b.Fails, b.Opened = impl.BreakClosed, 0, 0
	case b.State == impl.BreakHalf:
		b.State, b.Opened = impl.BreakOpen, c.Now
	default:
		b.Fails++
		if b.Fails == b.Limit {
			b.State, b.Opened = impl.BreakOpen, c.Now
		}
	}
	return b, true
}

func goodCallsByWords(l []impl.Call) bool {
	for i, c := range l {
		if c.Now < 0 || c.Now > 1000000 || i > 0 && c.Now < l[i-1].Now {
			return false
		}
	}
	return len(l) <= 120
}

// playByWords tells the breaker ahead of each call and behind the last one, and whether each call is let through.
func playByWords(limit int, cool int, l []impl.Call) ([]impl.Breaker, []bool) {
	way := []impl.Breaker{{Limit: limit, Cool: cool, State: impl.BreakClosed}}
	var through []bool
	for i, c := range l {
		next, let := callByWords(way[i], c)
		way = append(way, next)
		through = append(through, let)
	}
	return way, through
}

// callsOf makes calls of rows of a Now and of 1 where it is fine.
func callsOf(rows ...[2]int) []impl.Call {
	var l []impl.Call
	for _, row := range rows {
		l = append(l, impl.Call{Now: row[0], Fine: row[1] == 1})
	}
	return l
}

// callsAt makes so many calls of one Now.
func callsAt(now int, fine bool, count int) []impl.Call {
	return slices.Repeat([]impl.Call{{Now: now, Fine: fine}}, count)
}

// everyCalls tells all good lists of so many calls with a Now below a bound.
func everyCalls(count int, below int, use func(l []impl.Call)) {
	l := make([]impl.Call, count)
	var fill func(from int, least int)
	fill = func(from int, least int) {
		if from == count {
			use(l)
			return
		}
		for now := least; now < below; now++ {
			for _, fine := range []bool{false, true} {
				l[from] = impl.Call{Now: now, Fine: fine}
				fill(from+1, now)
			}
		}
	}
	fill(0, 0)
}

// someCalls draws calls that lie up to so far apart, of which one in some is fine.
func someCalls(count int, apart int, oneOf int, next func(below int) int) []impl.Call {
	var l []impl.Call
	now := next(apart + 1)
	for range count {
		l = append(l, impl.Call{Now: min(now, 1000000), Fine: next(oneOf) == 0})
		now += next(apart + 1)
	}
	return l
}

// somePolicy draws a good policy, with bounds met often.
func somePolicy(next func(below int) int) impl.Policy {
	p := impl.Policy{First: 1 + next(1000), Times: 1 + next(10), Tries: 1 + next(40)}
	if next(3) == 0 {
		p.First = []int{1, 2, 999, 1000}[next(4)]
	}
	p.Most = []int{p.First, p.First + 1, p.First + next(1000), p.First + next(1000001-p.First), 1000000}[next(5)]
	return p
}

// everyBreaker tells good breakers with each of some numbers for Limit, Cool and Opened, in each state, with each Fails.
func everyBreaker(limits []int, cools []int, openings []int) []impl.Breaker {
	var all []impl.Breaker
	for _, limit := range limits {
		for _, cool := range cools {
			for fails := range limit {
				all = append(all, impl.Breaker{Limit: limit, Cool: cool, State: impl.BreakClosed, Fails: fails})
			}
			for _, opened := range openings {
				all = append(all,
					impl.Breaker{Limit: limit, Cool: cool, State: impl.BreakOpen, Fails: limit, Opened: opened},
					impl.Breaker{Limit: limit, Cool: cool, State: impl.BreakHalf, Fails: limit, Opened: opened})
			}
		}
	}
	return all
}
