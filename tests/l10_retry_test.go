package tests

import (
	"math"
	"slices"
	"sync"
	"testing"

	"loop.example/g00269/impl"
)

// holdPolicy holds all that is told of a good policy: each wait, and that none is shorter than the one ahead of it.
func holdPolicy(t *testing.T, p impl.Policy) {
	t.Helper()
	if !impl.GoodPolicy(p) {
		t.Fatalf("GoodPolicy refuses %v", p)
	}
	var waits []int
	sum, ahead := 0, 0
	for try := 1; try <= p.Tries; try++ {
		wait, ok := impl.WaitOf(p, try)
		if !ok || wait != waitByWords(p, try) {
			t.Fatalf("WaitOf %v, %d: %d, %v, not %d", p, try, wait, ok, waitByWords(p, try))
		}
		if wait < ahead || wait < p.First || wait > p.Most {
			t.Fatalf("WaitOf %v, %d: %d, and %d ahead of it", p, try, wait, ahead)
		}
		ahead = wait
		if try < p.Tries {
			waits = append(waits, wait)
			sum += wait
		}
	}
	got, all, ok := impl.WaitsOf(p)
	if !ok || !slices.Equal(got, waits) || all != sum {
		t.Fatalf("WaitsOf %v: %v, %d, %v, not %v, %d", p, got, all, ok, waits, sum)
	}
	for _, try := range append([]int{0, -1, p.Tries + 1, p.Tries + 2, p.Tries + 40}, farNumbers...) {
		holdTryRefused(t, p, try)
	}
}

func holdTryRefused(t *testing.T, p impl.Policy, try int) {
	t.Helper()
	if wait, ok := impl.WaitOf(p, try); ok || wait != 0 {
		t.Fatalf("WaitOf %v, %d: %d, %v", p, try, wait, ok)
	}
}

// holdPolicyRefused holds the zero answer of each function, where a policy is not good.
func holdPolicyRefused(t *testing.T, p impl.Policy) {
	t.Helper()
	if impl.GoodPolicy(p) {
		t.Fatalf("GoodPolicy takes %v", p)
	}
	for _, try := range []int{math.MinInt, -1, 0, 1, 2, 39, 40, 41, math.MaxInt, p.Tries, p.Tries - 1} {
		holdTryRefused(t, p, try)
	}
	if l, sum, ok := impl.WaitsOf(p); ok || len(l) != 0 || sum != 0 {
		t.Fatalf("WaitsOf %v: %v, %d, %v", p, l, sum, ok)
	}
}

// holdEitherPolicy holds a policy by whether the words call it good; it tells that.
func holdEitherPolicy(t *testing.T, p impl.Policy) bool {
	t.Helper()
	if goodPolicyByWords(p) {
		holdPolicy(t, p)
		return true
	}
	holdPolicyRefused(t, p)
	return false
}

// holdCall holds what becomes of a good breaker by one call; it tells the breaker behind it.
func holdCall(t *testing.T, b impl.Breaker, c impl.Call) impl.Breaker {
	t.Helper()
	want, through := callByWords(b, c)
	got, let, ok := impl.CallBreaker(b, c)
	if !ok || let != through || got != want {
		t.Fatalf("CallBreaker %v, %v: %v, %v, %v, not %v, %v", b, c, got, let, ok, want, through)
	}
	if !impl.GoodBreaker(got) {
		t.Fatalf("CallBreaker %v, %v: %v is not good", b, c, got)
	}
	// Promise 10: what is Open lets nothing through ahead of its time, and is not changed by it.
	if cooled := b.State != impl.BreakOpen || c.Now >= b.Opened+b.Cool; let != cooled || !cooled && got != b {
		t.Fatalf("CallBreaker %v, %v: %v, %v", b, c, got, let)
	}
	if allows, ok := impl.AllowsAt(b, c.Now); !ok || allows != through {
		t.Fatalf("AllowsAt %v, %d: %v, %v", b, c.Now, allows, ok)
	}
	return got
}

// timesFor tells times at which a breaker may have something to decide, and the edges of all times.
func timesFor(b impl.Breaker) []int {
	at := b.Opened + b.Cool
	var times []int
	for _, now := range []int{0, 1, b.Opened - 1, b.Opened, b.Opened + 1, at - 1, at, at + 1, at + b.Cool, 500000, 999999, 1000000} {
		if now >= 0 && now <= 1000000 {
			times = append(times, now)
		}
	}
	return times
}

// holdBreaker holds all that is told of a good breaker.
func holdBreaker(t *testing.T, b impl.Breaker) {
	t.Helper()
	if !impl.GoodBreaker(b) {
		t.Fatalf("GoodBreaker refuses %v", b)
	}
	for _, now := range timesFor(b) {
		holdCall(t, b, impl.Call{Now: now})
		holdCall(t, b, impl.Call{Now: now, Fine: true})
	}
	for _, now := range append([]int{-1, -2, 1000001, 1000002, 1010000, 2000000}, farNumbers...) {
		holdCallRefused(t, b, now)
	}
}

// holdCallRefused holds the zero answers, where a breaker or a time is not good.
func holdCallRefused(t *testing.T, b impl.Breaker, now int) {
	t.Helper()
	for _, fine := range []bool{false, true} {
		if got, let, ok := impl.CallBreaker(b, impl.Call{Now: now, Fine: fine}); ok || let || got != (impl.Breaker{}) {
			t.Fatalf("CallBreaker %v, %d, %v: %v, %v, %v", b, now, fine, got, let, ok)
		}
	}
	if allows, ok := impl.AllowsAt(b, now); allows || ok {
		t.Fatalf("AllowsAt %v, %d: %v, %v", b, now, allows, ok)
	}
}

func holdBreakerRefused(t *testing.T, b impl.Breaker) {
	t.Helper()
	if impl.GoodBreaker(b) {
		t.Fatalf("GoodBreaker takes %v", b)
	}
	for _, now := range []int{math.MinInt, -1, 0, 1, b.Opened, 999999, 1000000, 1000001, math.MaxInt} {
		holdCallRefused(t, b, now)
	}
}

// holdEitherBreaker holds a breaker by whether the words call it good; it tells that.
func holdEitherBreaker(t *testing.T, b impl.Breaker) bool {
	t.Helper()
	if goodBreakerByWords(b) {
		holdBreaker(t, b)
		return true
	}
	holdBreakerRefused(t, b)
	return false
}

// holdCalls holds a play of good calls, and that call by call it comes to the same; it tells the breaker behind it.
func holdCalls(t *testing.T, limit int, cool int, l []impl.Call) impl.Breaker {
	t.Helper()
	way, want := playByWords(limit, cool, l)
	end := way[len(l)]
	got, through, ok := impl.PlayBreaker(limit, cool, l)
	if !ok || got != end || !slices.Equal(through, want) {
		t.Fatalf("PlayBreaker %d, %d, %v: %v, %v, %v, not %v, %v", limit, cool, l, got, through, ok, end, want)
	}
	b, ok := impl.NewBreaker(limit, cool)
	if !ok || b != way[0] {
		t.Fatalf("NewBreaker %d, %d: %v, %v", limit, cool, b, ok)
	}
	for i, c := range l {
		if b = holdCall(t, b, c); b != way[i+1] {
			t.Fatalf("call %d of %v: %v, not %v", i, l, b, way[i+1])
		}
	}
	holdOpenSpans(t, way, l, through)
	return end
}

// holdOpenSpans holds promise 10 over a play: from where a breaker opens on nothing is let through till it has cooled.
func holdOpenSpans(t *testing.T, way []impl.Breaker, l []impl.Call, through []bool) {
	t.Helper()
	for i := range l {
		if !through[i] || way[i+1].State != impl.BreakOpen {
			continue
		}
		for later := i + 1; later < len(l) && l[later].Now < l[i].Now+way[0].Cool; later++ {
			if through[later] {
				t.Fatalf("%v opens at call %d, and lets call %d of %v through", way[i+1], i, later, l)
			}
		}
	}
}

func holdCallsRefused(t *testing.T, limit int, cool int, l []impl.Call) {
	t.Helper()
	if b, through, ok := impl.PlayBreaker(limit, cool, l); ok || b != (impl.Breaker{}) || len(through) != 0 {
		t.Fatalf("PlayBreaker %d, %d, %v: %v, %v, %v", limit, cool, l, b, through, ok)
	}
}

func TestNamedWaits(t *testing.T) {
	for _, c := range []struct {
		policy impl.Policy
		waits  []int
		last   int
		sum    int
	}{
		// Doubled, and held to Most.
		{impl.Policy{First: 1, Times: 2, Most: 1000000, Tries: 6}, []int{1, 2, 4, 8, 16}, 32, 31},
		{impl.Policy{First: 3, Times: 2, Most: 20, Tries: 6}, []int{3, 6, 12, 20, 20}, 20, 61},
		{impl.Policy{First: 2, Times: 3, Most: 50, Tries: 5}, []int{2, 6, 18, 50}, 50, 76},
		// A wait that is just Most, one that would be one above it, and one below.
		{impl.Policy{First: 5, Times: 2, Most: 20, Tries: 4}, []int{5, 10, 20}, 20, 35},
		{impl.Policy{First: 5, Times: 2, Most: 19, Tries: 4}, []int{5, 10, 19}, 19, 34},
		{impl.Policy{First: 5, Times: 2, Most: 21, Tries: 5}, []int{5, 10, 20, 21}, 21, 56},
		{impl.Policy{First: 1, Times: 10, Most: 1000000, Tries: 8}, []int{1, 10, 100, 1000, 10000, 100000, 1000000}, 1000000, 1111111},
		{impl.Policy{First: 1, Times: 10, Most: 999999, Tries: 8}, []int{1, 10, 100, 1000, 10000, 100000, 999999}, 999999, 1111110},
		// Times of 1: all are alike.
		{impl.Policy{First: 7, Times: 1, Most: 7, Tries: 4}, []int{7, 7, 7}, 7, 21},
		{impl.Policy{First: 7, Times: 1, Most: 1000000, Tries: 4}, []int{7, 7, 7}, 7, 21},
		// Most is First.
		{impl.Policy{First: 1, Times: 10, Most: 1, Tries: 3}, []int{1, 1}, 1, 2},
		{impl.Policy{First: 1000, Times: 10, Most: 1000, Tries: 3}, []int{1000, 1000}, 1000, 2000},
		{impl.Policy{First: 1000, Times: 10, Most: 1001, Tries: 3}, []int{1000, 1001}, 1001, 2001},
		// One try alone has no wait ahead of another one, two have one.
		{impl.Policy{First: 9, Times: 2, Most: 1000000, Tries: 1}, nil, 9, 0},
		{impl.Policy{First: 9, Times: 2, Most: 1000000, Tries: 2}, []int{9}, 18, 9},
		{impl.Policy{First: 1000, Times: 10, Most: 1000000, Tries: 5}, []int{1000, 10000, 100000, 1000000}, 1000000, 1111000},
	} {
		holdPolicy(t, c.policy)
		if l, sum, ok := impl.WaitsOf(c.policy); !ok || !slices.Equal(l, c.waits) || sum != c.sum {
			t.Errorf("WaitsOf %v: %v, %d, %v", c.policy, l, sum, ok)
		}
		if first, ok := impl.WaitOf(c.policy, 1); !ok || first != c.policy.First {
			t.Errorf("WaitOf %v, 1: %d, %v", c.policy, first, ok)
		}
		if last, ok := impl.WaitOf(c.policy, c.policy.Tries); !ok || last != c.last {
			t.Errorf("WaitOf %v, the last one: %d, %v", c.policy, last, ok)
		}
	}
}

// Of all tries that there may be the power goes far beyond what an int holds.
func TestMostWaits(t *testing.T) {
	for first := 1; first <= 1000; first++ {
		for times := 1; times <= 10; times++ {
			for _, most := range []int{first, first + 1, max(first, 999999), 1000000} {
				p := impl.Policy{First: first, Times: times, Most: most, Tries: impl.MaxWaits}
				want := most
				if times == 1 {
					want = first
				}
				if wait, ok := impl.WaitOf(p, 40); !ok || wait != want {
					t.Fatalf("WaitOf %v, 40: %d, %v", p, wait, ok)
				}
				if l, _, ok := impl.WaitsOf(p); !ok || len(l) != 39 || !slices.IsSorted(l) || l[0] != first || l[38] != want {
					t.Fatalf("WaitsOf %v: %v, %v", p, l, ok)
				}
			}
		}
	}
	for _, c := range []struct{ first, times, most, sum int }{
		{1000, 10, 1000000, 1111000 + 35*1000000}, {1, 10, 1000000, 1111111 + 32*1000000}, {1000, 1, 1000000, 39000}, {1, 1, 1, 39},
		{1, 2, 1000000, 1<<20 - 1 + 19*1000000}, {1000, 10, 1000, 39000},
	} {
		p := impl.Policy{First: c.first, Times: c.times, Most: c.most, Tries: 40}
		holdPolicy(t, p)
		if l, sum, ok := impl.WaitsOf(p); !ok || len(l) != 39 || sum != c.sum {
			t.Errorf("WaitsOf %v: %v, %d, %v", p, l, sum, ok)
		}
	}
}

// Each number of tries, with each power that meets Most, or misses it by one.
func TestWaitsAtMost(t *testing.T) {
	for times := 1; times <= 10; times++ {
		for _, first := range []int{1, 2, 3, 7, 999, 1000} {
			for wait := first; wait <= 1000000; wait *= times {
				for _, most := range []int{wait - 1, wait, wait + 1} {
					for _, tries := range []int{1, 2, 8, 21, 39, 40} {
						holdEitherPolicy(t, impl.Policy{First: first, Times: times, Most: most, Tries: tries})
					}
				}
				if times == 1 {
					break
				}
			}
		}
	}
}

// All policies of few numbers, with each bound, one beyond it and far ones.
func TestEdgesOfPolicies(t *testing.T) {
	firsts := append([]int{-1, 0, 1, 2, 999, 1000, 1001}, farNumbers...)
	times := append([]int{-1, 0, 1, 2, 9, 10, 11}, farNumbers...)
	tries := append([]int{-1, 0, 1, 2, 39, 40, 41}, farNumbers...)
	good, bad := 0, 0
	for _, first := range firsts {
		for _, most := range []int{math.MinInt, -1, 0, 1, first - 1, first, first + 1, 999999, 1000000, 1000001, math.MaxInt} {
			for _, time := range times {
				for _, count := range tries {
					if holdEitherPolicy(t, impl.Policy{First: first, Times: time, Most: most, Tries: count}) {
						good++
					} else {
						bad++
					}
				}
			}
		}
	}
	// Of 1 five of these are a Most (1 stands there twice), of each other good First four, each with four Times and four Tries.
	if good != 17*4*4 || bad < 10000 {
		t.Error(good, bad)
	}
}

func TestManyPolicies(t *testing.T) {
	for seed := range 1500 {
		holdPolicy(t, somePolicy(numbersFrom(uint64(60000+seed))))
	}
}

// One number alone is beyond its bounds.
func TestBadPolicies(t *testing.T) {
	good := impl.Policy{First: 5, Times: 2, Most: 60, Tries: 6}
	holdPolicy(t, good)
	holdPolicyRefused(t, impl.Policy{})
	for _, n := range append([]int{0, -1, 1001, 1002, 1000000}, farNumbers...) {
		holdPolicyRefused(t, impl.Policy{First: n, Times: 2, Most: 1000000, Tries: 6})
		holdPolicyRefused(t, impl.Policy{First: n, Times: 2, Most: n, Tries: 6})
	}
	for _, n := range append([]int{0, -1, 11, 12, 100}, farNumbers...) {
		holdPolicyRefused(t, impl.Policy{First: 5, Times: n, Most: 60, Tries: 6})
	}
	for _, n := range append([]int{4, 1, 0, -1, -5, 1000001, 1000002}, farNumbers...) {
		holdPolicyRefused(t, impl.Policy{First: 5, Times: 2, Most: n, Tries: 6})
	}
	for _, n := range append([]int{0, -1, 41, 42, 1000}, farNumbers...) {
		holdPolicyRefused(t, impl.Policy{First: 5, Times: 2, Most: 60, Tries: n})
	}
}

func TestNewBreaker(t *testing.T) {
	good := 0
	for _, limit := range append([]int{-1, 0, 1, 2, 3, 19, 20, 21, 22}, farNumbers...) {
		for _, cool := range append([]int{-1, 0, 1, 2, 3, 9999, 10000, 10001, 10002}, farNumbers...) {
			b, ok := impl.NewBreaker(limit, cool)
			if limit < 1 || limit > 20 || cool < 1 || cool > 10000 {
				if ok || b != (impl.Breaker{}) {
					t.Errorf("NewBreaker %d, %d: %v, %v", limit, cool, b, ok)
				}
				holdCallsRefused(t, limit, cool, nil)
				holdCallsRefused(t, limit, cool, callsOf([2]int{1, 1}))
				continue
			}
			good++
			if want := (impl.Breaker{Limit: limit, Cool: cool}); !ok || b != want {
				t.Errorf("NewBreaker %d, %d: %v, %v", limit, cool, b, ok)
			}
			holdBreaker(t, b)
			holdCalls(t, limit, cool, nil)
		}
	}
	if good != 25 {
		t.Error(good)
	}
}

// What a call is to make of a breaker.
type breakerCase struct {
	breaker impl.Breaker
	call    impl.Call
	after   impl.Breaker
	through bool
}

func (c breakerCase) hold(t *testing.T) {
	t.Helper()
	holdBreaker(t, c.breaker)
	after, through, ok := impl.CallBreaker(c.breaker, c.call)
	if !ok || after != c.after || through != c.through {
		t.Errorf("CallBreaker %v, %v: %v, %v, %v", c.breaker, c.call, after, through, ok)
	}
	if allows, ok := impl.AllowsAt(c.breaker, c.call.Now); !ok || allows != c.through {
		t.Errorf("AllowsAt %v, %d: %v, %v", c.breaker, c.call.Now, allows, ok)
	}
}

func TestNamedCalls(t *testing.T) {
	closed := func(fails int) impl.Breaker { return impl.Breaker{Limit: 3, Cool: 10, Fails: fails} }
	open := func(at int) impl.Breaker {
		return impl.Breaker{Limit: 3, Cool: 10, State: impl.BreakOpen, Fails: 3, Opened: at}
	}
	half := func(at int) impl.Breaker {
		return impl.Breaker{Limit: 3, Cool: 10, State: impl.BreakHalf, Fails: 3, Opened: at}
	}
	fine := func(now int) impl.Call { return impl.Call{Now: now, Fine: true} }
	bad := func(now int) impl.Call { return impl.Call{Now: now} }
	for _, c := range []breakerCase{
		// Closed: fails are counted, a fine call wipes them out, the one at Limit opens.
		{closed(0), fine(5), closed(0), true},
		{closed(0), bad(5), closed(1), true},
		{closed(1), bad(5), closed(2), true},
		{closed(2), fine(5), closed(0), true},
		{closed(2), bad(5), open(5), true},
		{closed(2), bad(0), open(0), true},
		{closed(2), bad(1000000), open(1000000), true},
		// Open: one ahead of its time, just at it, one behind it.
		{open(50), bad(59), open(50), false},
		{open(50), fine(59), open(50), false},
		{open(50), bad(60), open(60), true},
		{open(50), fine(60), closed(0), true},
		{open(50), bad(61), open(61), true},
		{open(50), fine(61), closed(0), true},
		// Open, at the time it opened and ahead of it.
		{open(50), bad(50), open(50), false},
		{open(50), fine(49), open(50), false},
		{open(50), bad(0), open(50), false},
		{open(50), fine(0), open(50), false},
		// Open at the edges of all times.
		{open(0), bad(9), open(0), false},
		{open(0), bad(10), open(10), true},
		{open(999990), fine(999999), open(999990), false},
		{open(999990), fine(1000000), closed(0), true},
		{open(999991), fine(1000000), open(999991), false},
		{open(1000000), bad(1000000), open(1000000), false},
		// Half: one call decides, whenever it comes.
		{half(50), fine(60), closed(0), true},
		{half(50), bad(60), open(60), true},
		{half(50), fine(51), closed(0), true},
		{half(50), bad(51), open(51), true},
		{half(50), bad(49), open(49), true},
		{half(50), fine(0), closed(0), true},
		{half(1000000), bad(0), open(0), true},
		{half(0), bad(1000000), open(1000000), true},
		{half(1000000), bad(1000000), open(1000000), true},
	} {
		c.hold(t)
	}
}

// What is Half is open for one: the call behind it finds it Closed or Open.
func TestHalfIsOpenForOne(t *testing.T) {
	for _, b := range everyBreaker([]int{1, 2, 20}, []int{1, 10, 10000}, []int{0, 7, 1000000}) {
		if b.State == impl.BreakClosed {
			continue
		}
		at := b.Opened + b.Cool
		if b.State == impl.BreakHalf {
			at = b.Opened
		}
		if at > 1000000 {
			continue
		}
		failed, through, ok := impl.CallBreaker(b, impl.Call{Now: at})
		if want := (impl.Breaker{Limit: b.Limit, Cool: b.Cool, State: impl.BreakOpen, Fails: b.Limit, Opened: at}); !ok || !through || failed != want {
			t.Errorf("%v fails at %d: %v, %v, %v", b, at, failed, through, ok)
		}
		if again, through, ok := impl.CallBreaker(failed, impl.Call{Now: at, Fine: true}); !ok || through || again != failed {
			t.Errorf("%v is called at %d again: %v, %v, %v", failed, at, again, through, ok)
		}
		closed, through, ok := impl.CallBreaker(b, impl.Call{Now: at, Fine: true})
		if !ok || !through || closed != (impl.Breaker{Limit: b.Limit, Cool: b.Cool}) {
			t.Errorf("%v is called at %d: %v, %v, %v", b, at, closed, through, ok)
		}
	}
}

// No call leaves a breaker Half.
func TestCallsLeaveNoneHalf(t *testing.T) {
	for _, b := range everyBreaker([]int{1, 2, 3, 20}, []int{1, 2, 10000}, []int{0, 1, 500, 990000, 1000000}) {
		for _, now := range timesFor(b) {
			for _, fine := range []bool{false, true} {
				after, through, ok := impl.CallBreaker(b, impl.Call{Now: now, Fine: fine})
				if !ok || through && after.State == impl.BreakHalf || through && fine && after.State != impl.BreakClosed {
					t.Fatalf("CallBreaker %v, %d, %v: %v, %v, %v", b, now, fine, after, through, ok)
				}
			}
		}
	}
}

// Good breakers of all states, at and around each time that counts for them.
func TestEveryBreaker(t *testing.T) {
	limits := []int{1, 2, 3, 10, 19, 20}
	cools := []int{1, 2, 10, 9999, 10000}
	openings := []int{0, 1, 2, 10, 9999, 10000, 500000, 989999, 990000, 990001, 999998, 999999, 1000000}
	for _, b := range everyBreaker(limits, cools, openings) {
		if !holdEitherBreaker(t, b) {
			t.Fatalf("%v is to be good", b)
		}
	}
}

// Each time around that of one breaker.
func TestEveryTimeOfABreaker(t *testing.T) {
	for _, cool := range []int{1, 2, 3, 40} {
		for _, b := range everyBreaker([]int{1, 3}, []int{cool}, []int{0, 1, 39, 40}) {
			for now := range 100 {
				holdCall(t, b, impl.Call{Now: now})
				holdCall(t, b, impl.Call{Now: now, Fine: true})
			}
		}
	}
}

// All numbers at their bounds, one beyond them and far, in each state and in what is none.
func TestEdgesOfBreakers(t *testing.T) {
	good, bad := 0, 0
	for _, limit := range []int{math.MinInt, -1, 0, 1, 2, 20, 21, math.MaxInt} {
		for _, cool := range []int{math.MinInt, -1, 0, 1, 10, 10000, 10001, math.MaxInt} {
			for _, state := range []int{math.MinInt, -1, 0, 1, 2, 3, 4, 1 << 32, math.MaxInt} {
				for _, fails := range []int{math.MinInt, -1, 0, 1, 19, 20, limit - 1, limit, limit + 1, math.MaxInt} {
					for _, opened := range []int{math.MinInt, -1, 0, 1, 999999, 1000000, 1000001, math.MaxInt} {
						b := impl.Breaker{Limit: limit, Cool: cool, State: state, Fails: fails, Opened: opened}
						if holdEitherBreaker(t, b) {
							good++
						} else {
							bad++
						}
					}
				}
			}
		}
	}
	if good < 100 || bad < 10000 {
		t.Error(good, bad)
	}
}

// badBreakers have one thing that is not as said.
func badBreakers() []impl.Breaker {
	bad := []impl.Breaker{
		{},
		// Closed with as many fails as Limit, with more, and with a time.
		{Limit: 3, Cool: 10, Fails: 3}, {Limit: 3, Cool: 10, Fails: 4}, {Limit: 1, Cool: 10, Fails: 1}, {Limit: 20, Cool: 10, Fails: 20},
		{Limit: 3, Cool: 10, Opened: 1}, {Limit: 3, Cool: 10, Fails: 2, Opened: 1000000}, {Limit: 3, Cool: 10, Fails: -1}, {Limit: 3, Cool: 10, Opened: -1},
	}
	for _, state := range []int{impl.BreakOpen, impl.BreakHalf} {
		for _, fails := range append([]int{0, 1, 2, 4, 5, 20, -1, -3}, farNumbers...) {
			bad = append(bad, impl.Breaker{Limit: 3, Cool: 10, State: state, Fails: fails, Opened: 7})
		}
		for _, opened := range append([]int{-1, -2, 1000001, 1000010}, farNumbers...) {
			bad = append(bad, impl.Breaker{Limit: 3, Cool: 10, State: state, Fails: 3, Opened: opened})
		}
	}
	for _, state := range append([]int{-1, -2, 3, 4, 10, 256, 257, 258}, farNumbers...) {
		bad = append(bad, impl.Breaker{Limit: 3, Cool: 10, State: state}, impl.Breaker{Limit: 3, Cool: 10, State: state, Fails: 3, Opened: 7})
	}
	for _, n := range append([]int{0, -1, 21, 22}, farNumbers...) {
		bad = append(bad, impl.Breaker{Limit: n, Cool: 10}, impl.Breaker{Limit: n, Cool: 10, State: impl.BreakOpen, Fails: n}, impl.Breaker{Limit: n, Cool: 10, State: impl.BreakHalf, Fails: n})
	}
	for _, n := range append([]int{0, -1, 10001, 10002}, farNumbers...) {
		bad = append(bad, impl.Breaker{Limit: 3, Cool: n}, impl.Breaker{Limit: 3, Cool: n, State: impl.BreakOpen, Fails: 3}, impl.Breaker{Limit: 3, Cool: n, State: impl.BreakHalf, Fails: 3})
	}
	return bad
}

func TestBadBreakers(t *testing.T) {
	for _, b := range badBreakers() {
		holdBreakerRefused(t, b)
	}
}

func TestNamedPlays(t *testing.T) {
	for _, c := range []struct {
		limit, cool int
		calls       []impl.Call
		through     []int
		end         impl.Breaker
	}{
		{2, 10, nil, nil, impl.Breaker{Limit: 2, Cool: 10}},
		// Opened by two fails, not through at 5, through at 11 and opened again, through at 21.
		{2, 10, callsOf([2]int{0, 0}, [2]int{1, 0}, [2]int{5, 1}, [2]int{11, 0}, [2]int{20, 1}, [2]int{21, 1}), []int{1, 1, 0, 1, 0, 1}, impl.Breaker{Limit: 2, Cool: 10}},
		// A fine call between wipes the fails out.
		{2, 10, callsOf([2]int{0, 0}, [2]int{1, 1}, [2]int{2, 0}), []int{1, 1, 1}, impl.Breaker{Limit: 2, Cool: 10, Fails: 1}},
		// A Limit of 1 and a Cool of 1: each fail opens, the next time lets through.
		{1, 1, callsOf([2]int{0, 0}, [2]int{0, 1}, [2]int{1, 0}, [2]int{1, 1}, [2]int{2, 1}), []int{1, 0, 1, 0, 1}, impl.Breaker{Limit: 1, Cool: 1}},
		// Calls of the same Now: what opens is Open at once.
		{3, 5, callsAt(7, false, 5), []int{1, 1, 1, 0, 0}, impl.Breaker{Limit: 3, Cool: 5, State: impl.BreakOpen, Fails: 3, Opened: 7}},
		// A Cool of 10000, one ahead of its end and at it.
		{1, 10000, callsOf([2]int{3, 0}, [2]int{10002, 1}, [2]int{10003, 0}, [2]int{20002, 1}), []int{1, 0, 1, 0}, impl.Breaker{Limit: 1, Cool: 10000, State: impl.BreakOpen, Fails: 1, Opened: 10003}},
		// At the end of all times.
		{1, 10, callsOf([2]int{999990, 0}, [2]int{1000000, 0}, [2]int{1000000, 1}), []int{1, 1, 0}, impl.Breaker{Limit: 1, Cool: 10, State: impl.BreakOpen, Fails: 1, Opened: 1000000}},
		// Once Closed again it takes as many fails as ever.
		{2, 2, callsOf([2]int{0, 0}, [2]int{0, 0}, [2]int{2, 1}, [2]int{3, 0}, [2]int{3, 0}, [2]int{4, 1}), []int{1, 1, 1, 1, 1, 0}, impl.Breaker{Limit: 2, Cool: 2, State: impl.BreakOpen, Fails: 2, Opened: 3}},
	} {
		holdCalls(t, c.limit, c.cool, c.calls)
		b, through, ok := impl.PlayBreaker(c.limit, c.cool, c.calls)
		if !ok || b != c.end || len(through) != len(c.through) {
			t.Fatalf("PlayBreaker %d, %d, %v: %v, %v, %v", c.limit, c.cool, c.calls, b, through, ok)
		}
		for i, want := range c.through {
			if through[i] != (want == 1) {
				t.Errorf("PlayBreaker %d, %d, %v: %v", c.limit, c.cool, c.calls, through)
			}
		}
	}
}

// A Limit of 20 opens at the twentieth fail in a row, and at no other one.
func TestFailsUpToLimit(t *testing.T) {
	for limit := 1; limit <= 20; limit++ {
		for fails := range 25 {
			end := holdCalls(t, limit, 10, callsAt(5, false, fails))
			if open := fails >= limit; open != (end.State == impl.BreakOpen) || end.Fails != min(fails, limit) {
				t.Errorf("Limit %d, %d fails: %v", limit, fails, end)
			}
		}
		row := slices.Concat(callsAt(1, false, limit-1), callsAt(1, true, 1), callsAt(1, false, limit-1))
		if end := holdCalls(t, limit, 10, row); end.State != impl.BreakClosed || end.Fails != limit-1 {
			t.Errorf("Limit %d, twice nearly so many: %v", limit, end)
		}
	}
}

// All plays of few calls.
func TestEveryFewCalls(t *testing.T) {
	plays := 0
	for limit := 1; limit <= 3; limit++ {
		for cool := 1; cool <= 3; cool++ {
			for count := range 5 {
				everyCalls(count, 5, func(l []impl.Call) {
					holdCalls(t, limit, cool, l)
					plays++
				})
			}
		}
	}
	everyCalls(5, 4, func(l []impl.Call) {
		holdCalls(t, 2, 2, l)
		plays++
	})
	if plays < 10000 {
		t.Error(plays)
	}
}

func TestManyCalls(t *testing.T) {
	let, kept, opened := 0, 0, 0
	for seed := range 800 {
		next := numbersFrom(uint64(61000 + seed))
		limit := []int{1, 2, 3, 1 + next(20), 20}[next(5)]
		cool := []int{1, 2, 1 + next(50), 1 + next(10000), 10000}[next(5)]
		apart := []int{0, 1, 5, 1 + cool/2, cool, 10000}[next(6)]
		count := []int{next(121), impl.MaxCalls}[next(2)]
		l := someCalls(count, apart, 1+next(20), next)
		if end := holdCalls(t, limit, cool, l); end.State == impl.BreakOpen {
			opened++
		}
		_, through, _ := impl.PlayBreaker(limit, cool, l)
		for _, passed := range through {
			if passed {
				let++
			} else {
				kept++
			}
		}
	}
	if let < 5000 || kept < 5000 || opened < 100 {
		t.Error(let, kept, opened)
	}
}

func TestHowManyCalls(t *testing.T) {
	for _, fine := range []bool{false, true} {
		holdCalls(t, 20, 10000, callsAt(1000000, fine, 119))
		holdCalls(t, 20, 10000, callsAt(1000000, fine, impl.MaxCalls))
		for _, count := range []int{121, 122, 1000} {
			holdCallsRefused(t, 20, 10000, callsAt(0, fine, count))
			holdCallsRefused(t, 1, 1, callsAt(1000000, fine, count))
		}
	}
	if _, through, ok := impl.PlayBreaker(1, 1, callsAt(0, true, 120)); !ok || len(through) != 120 || slices.Contains(through, false) {
		t.Error(through, ok)
	}
}

// One call that is not as said, at each place of a play.
func TestBadCalls(t *testing.T) {
	for _, count := range []int{1, 2, 5, impl.MaxCalls} {
		for place := range count {
			for _, now := range append([]int{-1, -2, 1000001, 1000002}, farNumbers...) {
				l := callsAt(0, place%2 == 0, count)
				l[place].Now = now
				holdCallsRefused(t, 2, 10, l)
				// With all behind it the same, too, so that none is earlier.
				for i := range l[place:] {
					l[place+i].Now = now
				}
				holdCallsRefused(t, 2, 10, l)
			}
			if place > 0 {
				l := callsAt(500, true, count)
				l[place].Now = 499
				holdCallsRefused(t, 2, 10, l)
				l[place].Now = 0
				holdCallsRefused(t, 2, 10, l)
			}
		}
	}
	// One step back is enough, at the beginning or at the end.
	holdCallsRefused(t, 2, 10, callsOf([2]int{5, 1}, [2]int{4, 1}, [2]int{5, 1}))
	holdCallsRefused(t, 2, 10, callsOf([2]int{0, 1}, [2]int{5, 1}, [2]int{5, 0}, [2]int{4, 0}))
	// A call that is not let through counts as one ahead, too.
	holdCallsRefused(t, 1, 10, callsOf([2]int{0, 0}, [2]int{5, 0}, [2]int{4, 0}))
	for _, l := range [][]impl.Call{nil, callsOf([2]int{0, 0}), callsOf([2]int{5, 1}, [2]int{4, 1})} {
		for _, n := range append([]int{0, -1}, farNumbers...) {
			holdCallsRefused(t, n, 10, l)
			holdCallsRefused(t, 2, n, l)
			holdCallsRefused(t, n, n, l)
		}
		holdCallsRefused(t, 21, 10, l)
		holdCallsRefused(t, 2, 10001, l)
	}
}

func TestCallsThatAreChanged(t *testing.T) {
	good, bad := 0, 0
	for seed := range 3000 {
		next := numbersFrom(uint64(62000 + seed))
		l := someCalls(1+next(20), 5, 3, next)
		l[next(len(l))].Now += next(21) - 10
		if goodCallsByWords(l) {
			good++
			holdCalls(t, 2, 8, l)
		} else {
			bad++
			holdCallsRefused(t, 2, 8, l)
		}
	}
	if good < 300 || bad < 300 {
		t.Error(good, bad)
	}
}

// What is asked leaves no trace: a breaker allows as before, however often it is asked.
func TestAskingChangesNothing(t *testing.T) {
	b := impl.Breaker{Limit: 2, Cool: 10, State: impl.BreakOpen, Fails: 2, Opened: 5}
	for range 3 {
		for now := range 30 {
			if allows, ok := impl.AllowsAt(b, now); !ok || allows != (now >= 15) {
				t.Errorf("AllowsAt %v, %d: %v, %v", b, now, allows, ok)
			}
		}
	}
}

// Many who ask at once get what one gets.
func TestBreakersAskedForAtOnce(t *testing.T) {
	var group sync.WaitGroup
	calls := someCalls(impl.MaxCalls, 5, 4, numbersFrom(63000))
	way, want := playByWords(3, 20, calls)
	p := impl.Policy{First: 3, Times: 2, Most: 1000, Tries: 40}
	for range 8 {
		group.Go(func() {
			for range 40 {
				b, through, ok := impl.PlayBreaker(3, 20, calls)
				if !ok || b != way[len(calls)] || !slices.Equal(through, want) {
					t.Errorf("PlayBreaker: %v, %v, %v", b, through, ok)
				}
				if wait, ok := impl.WaitOf(p, 40); !ok || wait != 1000 {
					t.Errorf("WaitOf %v, 40: %d, %v", p, wait, ok)
				}
			}
		})
	}
	group.Wait()
}
