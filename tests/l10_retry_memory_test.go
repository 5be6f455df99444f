package tests

import (
	"math"
	"slices"
	"testing"

	"loop.example/g00269/impl"
)

var wrongCall = impl.Call{Now: math.MinInt, Fine: true}

// callsBehind lays wrong calls behind a list.
func callsBehind(l []impl.Call) []impl.Call {
	return append(slices.Clone(l), wrongCall, wrongCall, wrongCall)[:len(l)]
}

// fillBools turns about all that a list has, up to its capacity.
func fillBools(l []bool) {
	l = l[:cap(l)]
	for i := range l {
		l[i] = !l[i]
	}
}

// holdCallMemory holds that calls are not changed, nothing behind them is read, and no answer shares memory with another one.
func holdCallMemory(t *testing.T, limit int, cool int, l []impl.Call) {
	t.Helper()
	b, through, ok := impl.PlayBreaker(limit, cool, slices.Clip(slices.Clone(l)))
	want := slices.Clone(through)
	laid := callsBehind(l)
	kept := slices.Clone(laid[:cap(laid)])
	for range 3 {
		got, let, again := impl.PlayBreaker(limit, cool, laid)
		if got != b || again != ok || !slices.Equal(let, want) {
			t.Fatalf("PlayBreaker %d, %d, %v: what lies behind the list is read, or an answer was kept", limit, cool, l)
		}
		if slices.Contains(let[len(let):cap(let)], true) {
			t.Fatalf("PlayBreaker %d, %d, %v: something lies behind the answer", limit, cool, l)
		}
		fillBools(let)
		if !slices.Equal(through, want) {
			t.Fatalf("PlayBreaker %d, %d, %v: two answers share memory", limit, cool, l)
		}
		if !slices.Equal(laid[:cap(laid)], kept) {
			t.Fatalf("the calls %v, or what lies behind them, are written into", l)
		}
	}
	// The answer stays what it is when the argument is changed.
	_, let, _ := impl.PlayBreaker(limit, cool, laid)
	for i := range laid {
		laid[i] = wrongCall
	}
	if !slices.Equal(let, want) {
		t.Fatalf("PlayBreaker %d, %d, %v: the answer lies in the memory of the argument", limit, cool, l)
	}
}

func TestCallsAreLeftAlone(t *testing.T) {
	for seed := range 300 {
		next := numbersFrom(uint64(64000 + seed))
		l := someCalls(next(121), []int{0, 2, 50}[next(3)], 1+next(6), next)
		holdCallMemory(t, 1+next(5), 1+next(40), l)
		// What is refused is left alone as well.
		holdCallMemory(t, 0, 10, l)
		holdCallMemory(t, 2, 10001, l)
		holdCallMemory(t, 2, 10, append(l, wrongCall))
		holdCallMemory(t, 2, 10, append(l, impl.Call{Now: -1}))
	}
	holdCallMemory(t, 2, 10, nil)
	holdCallMemory(t, 2, 10, []impl.Call{})
	holdCallMemory(t, 2, 10, callsAt(3, false, impl.MaxCalls))
	holdCallMemory(t, 2, 10, callsAt(3, false, impl.MaxCalls+1))
}

// A list ends where its length says, whatever lies behind it.
func TestCallsBehindTheList(t *testing.T) {
	l := callsAt(4, false, 130)
	l[125].Now = 3
	for length := range len(l) + 1 {
		_, through, ok := impl.PlayBreaker(2, 10, l[:length])
		if good := length <= impl.MaxCalls; ok != good || good && len(through) != length || !good && len(through) != 0 {
			t.Errorf("%d calls: %v, %v", length, through, ok)
		}
	}
	short := callsOf([2]int{1, 0}, [2]int{2, 0}, [2]int{1, 1}, [2]int{9, 1})
	for length := range len(short) + 1 {
		if _, _, ok := impl.PlayBreaker(2, 10, short[:length]); ok != (length <= 2) {
			t.Errorf("%d of %v: %v", length, short, ok)
		}
	}
	// Nor does it count what stands ahead of a piece of a list.
	if _, through, ok := impl.PlayBreaker(2, 10, short[2:]); !ok || !slices.Equal(through, []bool{true, true}) {
		t.Error(through, ok)
	}
}

func TestWaitsAreNewMemory(t *testing.T) {
	for seed := range 300 {
		p := somePolicy(numbersFrom(uint64(65000 + seed)))
		first, sum, ok := impl.WaitsOf(p)
		want := slices.Clone(first)
		for range 3 {
			again, same, fine := impl.WaitsOf(p)
			if !slices.Equal(again, want) || same != sum || fine != ok {
				t.Fatalf("WaitsOf %v: %v, %d, %v: an answer was kept", p, again, same, fine)
			}
			for _, n := range again[len(again):cap(again)] {
				if n != 0 {
					t.Fatalf("WaitsOf %v: behind the answer lies %d", p, n)
				}
			}
			fillVec(again, -5)
			if !slices.Equal(first, want) {
				t.Fatalf("WaitsOf %v: two answers share memory", p)
			}
		}
		if wait, _ := impl.WaitOf(p, p.Tries); wait != waitByWords(p, p.Tries) {
			t.Fatalf("WaitOf %v: %d", p, wait)
		}
	}
}
