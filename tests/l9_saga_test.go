package tests

import (
	"math"
	"slices"
	"sync"
	"testing"

	"loop.example/g00269/impl"
)

// holdStep holds what one step makes of a good saga, by itself and by failing.
func holdStep(t *testing.T, s impl.Saga) {
	t.Helper()
	want, can := stepSagaByWords(s)
	next, ok := impl.StepSaga(s)
	if ok != can || !sameSagas(next, want) {
		t.Fatalf("StepSaga %v: %v, %v, not %v, %v", s, next, ok, want, can)
	}
	if ok && !impl.GoodSaga(next) {
		t.Fatalf("StepSaga %v: %v is not good", s, next)
	}
	wantFailed, canFail := failSagaByWords(s)
	failed, failedOk := impl.FailSaga(s)
	if failedOk != canFail || !sameSagas(failed, wantFailed) {
		t.Fatalf("FailSaga %v: %v, %v", s, failed, failedOk)
	}
	over, whole, ok := impl.IsOver(s)
	if !ok || over == can || whole != (s.Done == len(s.Moves) && !s.Undoing) {
		t.Fatalf("IsOver %v: %v, %v, %v", s, over, whole, ok)
	}
	sum, ok := impl.SumIn(s)
	if !ok || sum != sumByWords(s.Accounts) {
		t.Fatalf("SumIn %v: %d, %v", s, sum, ok)
	}
	if after, _ := impl.SumIn(next); can && after != sum {
		t.Fatalf("StepSaga %v: %v has another sum", s, next)
	}
}

// holdRun holds one run of a good saga; it tells the saga behind it.
func holdRun(t *testing.T, s impl.Saga, fail int) impl.Saga {
	t.Helper()
	way := sagasOnTheWay(s, fail)
	want := way[len(way)-1]
	got, steps, ok := impl.RunSaga(s, fail)
	if !ok || steps != len(way)-1 || !sameSagas(got, want) {
		t.Fatalf("RunSaga %v, %d: %v, %d, %v, not %v, %d", s, fail, got, steps, ok, want, len(way)-1)
	}
	if over, _, ok := impl.IsOver(got); !over || !ok {
		t.Fatalf("RunSaga %v, %d: %v is not over", s, fail, got)
	}
	return got
}

// failsOf tells each step that a saga could fail at, some that are too far, and some that are none.
func failsOf(s impl.Saga) []int {
	fails := []int{math.MinInt, -2, -1, 1 << 32, math.MaxInt - 1, math.MaxInt}
	for fail := range 2*len(s.Moves) + 3 {
		fails = append(fails, fail)
	}
	return fails
}

// holdSaga holds all that is told of a good saga.
func holdSaga(t *testing.T, s impl.Saga) {
	t.Helper()
	if !impl.GoodSaga(s) {
		t.Fatalf("GoodSaga refuses %v", s)
	}
	holdStep(t, s)
	for _, fail := range failsOf(s) {
		holdRun(t, s, fail)
	}
}

// holdNewSaga holds promise 9 as it stands: of good accounts and moves each run is done whole, or all is as it was.
func holdNewSaga(t *testing.T, accounts []int, l []impl.Move) {
	t.Helper()
	s, ok := impl.NewSaga(accounts, l)
	if !ok || !sameSagas(s, impl.Saga{Accounts: accounts, Moves: l}) {
		t.Fatalf("NewSaga %v, %v: %v, %v", accounts, l, s, ok)
	}
	holdSaga(t, s)
	for _, fail := range failsOf(s) {
		end, _, _ := impl.RunSaga(s, fail)
		_, whole, _ := impl.IsOver(end)
		undone := end.Undoing && end.Done == 0 && slices.Equal(end.Accounts, accounts)
		if whole == undone || whole && end.Done != len(l) {
			t.Fatalf("%v, %v, failing at %d, is neither done nor undone: %v", accounts, l, fail, end)
		}
		// What is to fail at one of the moves is never whole.
		if whole && fail >= 0 && fail < len(l) {
			t.Fatalf("%v, %v does not fail at %d: %v", accounts, l, fail, end)
		}
	}
}

// holdSagaRefused holds the zero answer of each function, where a saga is not good.
func holdSagaRefused(t *testing.T, s impl.Saga) {
	t.Helper()
	if impl.GoodSaga(s) {
		t.Fatalf("GoodSaga takes %v", s)
	}
	if next, ok := impl.StepSaga(s); ok || !isZeroSaga(next) {
		t.Fatalf("StepSaga %v: %v, %v", s, next, ok)
	}
	if next, ok := impl.FailSaga(s); ok || !isZeroSaga(next) {
		t.Fatalf("FailSaga %v: %v, %v", s, next, ok)
	}
	for _, fail := range []int{math.MinInt, -1, 0, 1, 2, math.MaxInt} {
		if next, steps, ok := impl.RunSaga(s, fail); ok || steps != 0 || !isZeroSaga(next) {
			t.Fatalf("RunSaga %v, %d: %v, %d, %v", s, fail, next, steps, ok)
		}
	}
	if over, whole, ok := impl.IsOver(s); over || whole || ok {
		t.Fatalf("IsOver %v: %v, %v, %v", s, over, whole, ok)
	}
	if sum, ok := impl.SumIn(s); sum != 0 || ok {
		t.Fatalf("SumIn %v: %d, %v", s, sum, ok)
	}
}

// holdEitherSaga holds a saga by whether the words call it good; it tells that.
func holdEitherSaga(t *testing.T, s impl.Saga) bool {
	t.Helper()
	if goodSagaByWords(s) {
		holdSaga(t, s)
		return true
	}
	holdSagaRefused(t, s)
	return false
}

func holdNewSagaRefused(t *testing.T, accounts []int, l []impl.Move) {
	t.Helper()
	if s, ok := impl.NewSaga(accounts, l); ok || !isZeroSaga(s) {
		t.Fatalf("NewSaga %v, %v: %v, %v", accounts, l, s, ok)
	}
	holdSagaRefused(t, impl.Saga{Accounts: accounts, Moves: l})
}

// What a saga is to tell.
type sagaCase struct {
	saga impl.Saga
	// The accounts, what is done and whether it is Undoing, one step later.
	after   []int
	done    int
	undoing bool
	steps   bool
	// How many steps a run has, and what the accounts are at its end.
	run   int
	end   []int
	whole bool
}

func (c sagaCase) hold(t *testing.T) {
	t.Helper()
	holdSaga(t, c.saga)
	want := impl.Saga{}
	if c.steps {
		want = impl.Saga{Accounts: c.after, Moves: c.saga.Moves, Done: c.done, Undoing: c.undoing}
	}
	if next, ok := impl.StepSaga(c.saga); ok != c.steps || !sameSagas(next, want) {
		t.Errorf("StepSaga %v: %v, %v", c.saga, next, ok)
	}
	if over, _, ok := impl.IsOver(c.saga); !ok || over == c.steps {
		t.Errorf("IsOver %v: %v, %v", c.saga, over, ok)
	}
	end, steps, ok := impl.RunSaga(c.saga, -1)
	if !ok || steps != c.run || !slices.Equal(end.Accounts, c.end) {
		t.Errorf("RunSaga %v: %v, %d, %v", c.saga, end, steps, ok)
	}
	if over, whole, ok := impl.IsOver(end); !over || whole != c.whole || !ok {
		t.Errorf("IsOver %v: %v, %v, %v", end, over, whole, ok)
	}
}

func TestNamedSagas(t *testing.T) {
	const full = 1000000
	two, three := [3]int{0, 1, 7}, [3]int{1, 2, 7}
	cases := []sagaCase{
		// No moves: it is over, and whole but where it is Undoing.
		{saga: sagaOf([]int{0}, 0, false), end: []int{0}, whole: true},
		{saga: sagaOf([]int{full}, 0, false), end: []int{full}, whole: true},
		{saga: sagaOf([]int{5}, 0, true), end: []int{5}},
		// One move, whole, and just what there is.
		{saga: sagaOf([]int{7, 0}, 0, false, two), after: []int{0, 7}, done: 1, steps: true, run: 1, end: []int{0, 7}, whole: true},
		{saga: sagaOf([]int{8, 0}, 0, false, two), after: []int{1, 7}, done: 1, steps: true, run: 1, end: []int{1, 7}, whole: true},
		// One too little in From.
		{saga: sagaOf([]int{6, 0}, 0, false, two), after: []int{6, 0}, undoing: true, steps: true, run: 1, end: []int{6, 0}},
		{saga: sagaOf([]int{0, 0}, 0, false, [3]int{0, 1, 1}), after: []int{0, 0}, undoing: true, steps: true, run: 1, end: []int{0, 0}},
		// To is full to the brim, and one too much.
		{saga: sagaOf([]int{7, full - 7}, 0, false, two), after: []int{0, full}, done: 1, steps: true, run: 1, end: []int{0, full}, whole: true},
		{saga: sagaOf([]int{7, full - 6}, 0, false, two), after: []int{7, full - 6}, undoing: true, steps: true, run: 1, end: []int{7, full - 6}},
		{saga: sagaOf([]int{full, full}, 0, false, [3]int{0, 1, 1}), after: []int{full, full}, undoing: true, steps: true, run: 1, end: []int{full, full}},
		// The least and the greatest Many.
		{saga: sagaOf([]int{1, 0}, 0, false, [3]int{0, 1, 1}), after: []int{0, 1}, done: 1, steps: true, run: 1, end: []int{0, 1}, whole: true},
		{saga: sagaOf([]int{full, 0}, 0, false, [3]int{0, 1, 1000}), after: []int{full - 1000, 1000}, done: 1, steps: true, run: 1, end: []int{full - 1000, 1000}, whole: true},
		// What comes to an account is there for the next move.
		{saga: sagaOf([]int{7, 0, 0}, 0, false, two, three), after: []int{0, 7, 0}, done: 1, steps: true, run: 2, end: []int{0, 0, 7}, whole: true},
		// What goes makes room for the next one.
		{saga: sagaOf([]int{7, full, 0}, 0, false, three, two), after: []int{7, full - 7, 7}, done: 1, steps: true, run: 2, end: []int{0, full, 7}, whole: true},
		// The second one fails, and the first one is undone.
		{saga: sagaOf([]int{7, 0, 0}, 0, false, two, [3]int{1, 2, 8}), after: []int{0, 7, 0}, done: 1, steps: true, run: 3, end: []int{7, 0, 0}},
		{saga: sagaOf([]int{0, 7, 0}, 1, false, two, [3]int{1, 2, 8}), after: []int{0, 7, 0}, done: 1, undoing: true, steps: true, run: 2, end: []int{7, 0, 0}},
		// Undone from the last one back: the other way round an account would go below 0, or above its bound.
		{saga: sagaOf([]int{0, 0, 7}, 2, true, two, three), after: []int{0, 7, 0}, done: 1, undoing: true, steps: true, run: 2, end: []int{7, 0, 0}},
		{saga: sagaOf([]int{0, full, 7}, 2, true, three, two), after: []int{7, full - 7, 7}, done: 1, undoing: true, steps: true, run: 2, end: []int{7, full, 0}},
		// Undone to just 0 and to just the bound.
		{saga: sagaOf([]int{full - 7, 7}, 1, true, two), after: []int{full, 0}, undoing: true, steps: true, run: 1, end: []int{full, 0}},
		// All are done: nothing is left to step, but where it is Undoing.
		{saga: sagaOf([]int{0, 0, 7}, 2, false, two, three), end: []int{0, 0, 7}, whole: true},
		// None is done, and it is Undoing.
		{saga: sagaOf([]int{7, 0, 0}, 0, true, two, three), end: []int{7, 0, 0}},
		// Some are done, and the rest is.
		{saga: sagaOf([]int{0, 7, 0}, 1, false, two, three), after: []int{0, 0, 7}, done: 2, steps: true, run: 1, end: []int{0, 0, 7}, whole: true},
		// Some are done, and undone.
		{saga: sagaOf([]int{0, 7, 0}, 1, true, two, three), after: []int{7, 0, 0}, undoing: true, steps: true, run: 1, end: []int{7, 0, 0}},
	}
	for _, c := range cases {
		c.hold(t)
	}
}

func TestFailingAtEachStep(t *testing.T) {
	begin := []int{9, 0, 5}
	s, _ := impl.NewSaga(begin, []impl.Move{{From: 0, To: 1, Many: 7}, {From: 1, To: 2, Many: 7}, {From: 2, To: 0, Many: 12}})
	// Behind the last step there is none to fail at; below 0 there is none either.
	whole := []int{14, 0, 0}
	for _, c := range []struct {
		fail  int
		steps int
		done  int
		end   []int
	}{
		{0, 1, 0, begin}, {1, 3, 0, begin}, {2, 5, 0, begin}, {3, 3, 3, whole}, {4, 3, 3, whole}, {20, 3, 3, whole}, {math.MaxInt, 3, 3, whole},
		{-1, 3, 3, whole}, {-2, 3, 3, whole}, {math.MinInt, 3, 3, whole},
	} {
		got, steps, ok := impl.RunSaga(s, c.fail)
		if !ok || steps != c.steps || !slices.Equal(got.Accounts, c.end) || got.Done != c.done || got.Undoing != (c.done == 0) {
			t.Errorf("failing at %d: %v, %d, %v", c.fail, got, steps, ok)
		}
	}
	// Steps count from where the run begins, not from the first move.
	s, _ = impl.StepSaga(s)
	for fail, steps := range []int{2, 4, 2, 2} {
		got, many, ok := impl.RunSaga(s, fail)
		if !ok || many != steps || got.Undoing != (fail < 2) {
			t.Errorf("from the second move on, failing at %d: %v, %d, %v", fail, got, many, ok)
		}
	}
}

// What is Undoing can't fail again: the steps back are done as they would be.
func TestFailingWhileUndoing(t *testing.T) {
	l := []impl.Move{{From: 0, To: 1, Many: 1}, {From: 0, To: 1, Many: 1}, {From: 0, To: 1, Many: 9}}
	s, _ := impl.NewSaga([]int{3, 0}, l)
	for fail, want := range []int{1, 3, 5, 5, 5, 5, 5} {
		got, steps, ok := impl.RunSaga(s, fail)
		if !ok || steps != want || !sameSagas(got, impl.Saga{Accounts: []int{3, 0}, Moves: l, Undoing: true}) {
			t.Errorf("failing at %d: %v, %d, %v", fail, got, steps, ok)
		}
	}
	all := impl.Saga{Accounts: []int{1, 2}, Moves: l[:2], Done: 2, Undoing: true}
	for fail := -1; fail < 4; fail++ {
		got, steps, ok := impl.RunSaga(all, fail)
		if !ok || steps != 2 || !sameSagas(got, impl.Saga{Accounts: []int{3, 0}, Moves: l[:2], Undoing: true}) {
			t.Errorf("failing at %d: %v, %d, %v", fail, got, steps, ok)
		}
	}
}

func TestFailSaga(t *testing.T) {
	l := []impl.Move{{From: 0, To: 1, Many: 1}, {From: 1, To: 0, Many: 1}}
	for done, accounts := range [][]int{{1, 0}, {0, 1}, {1, 0}} {
		s := impl.Saga{Accounts: accounts, Moves: l, Done: done}
		want := impl.Saga{Accounts: accounts, Moves: l, Done: done, Undoing: true}
		if got, ok := impl.FailSaga(s); ok != (done < 2) || ok && !sameSagas(got, want) || !ok && !isZeroSaga(got) {
			t.Errorf("FailSaga %v: %v, %v", s, got, ok)
		}
		// One that failed does not fail again.
		if got, ok := impl.FailSaga(want); ok || !isZeroSaga(got) {
			t.Errorf("FailSaga %v: %v, %v", want, got, ok)
		}
	}
}

// All sagas of few accounts and moves, with each Done, Undoing or not.
func TestEveryFewSagas(t *testing.T) {
	good, bad := 0, 0
	use := func(accounts []int, l []impl.Move) {
		holdNewSaga(t, accounts, l)
		for done := -1; done <= len(l)+1; done++ {
			for _, undoing := range []bool{false, true} {
				if holdEitherSaga(t, impl.Saga{Accounts: accounts, Moves: l, Done: done, Undoing: undoing}) {
					good++
				} else {
					bad++
				}
			}
		}
	}
	for _, c := range []struct {
		accounts int
		moves    int
		amounts  []int
		many     []int
	}{
		{1, 0, []int{0, 1, 1000000}, nil},
		{2, 1, []int{0, 1, 999, 1000, 1001, 998999, 999000, 999001, 999999, 1000000}, []int{1, 2, 999, 1000}},
		{2, 2, []int{0, 1, 2, 999998, 999999, 1000000}, []int{1, 2}},
		{2, 3, []int{0, 1, 2, 999999, 1000000}, []int{1, 2}},
		{3, 2, []int{0, 1, 1000000}, []int{1, 2}},
	} {
		moves := everyMove(c.accounts, c.many...)
		everyCut(slices.Repeat([]int{len(c.amounts) - 1}, c.accounts), func(places []int) {
			accounts := atNumbers(places, c.amounts)
			everyCut(slices.Repeat([]int{len(moves) - 1}, c.moves), func(row []int) {
				var l []impl.Move
				for _, i := range row {
					l = append(l, moves[i])
				}
				use(accounts, l)
			})
		})
	}
	if good < 10000 || bad < 10000 {
		t.Error(good, bad)
	}
}

func TestManySagas(t *testing.T) {
	whole, undone, furthest := 0, 0, 0
	for seed := range 400 {
		next := numbersFrom(uint64(50000 + seed))
		accounts, moves := 1+next(impl.MaxAccounts), next(impl.MaxSaga+1)
		s := someSaga(accounts, moves, next)
		if seed%2 == 0 {
			s = someFittingSaga(accounts, moves, next)
		}
		holdNewSaga(t, s.Accounts, s.Moves)
		way := sagasOnTheWay(s, next(2*len(s.Moves)+2)-1)
		for _, on := range way {
			holdSaga(t, on)
			furthest = max(furthest, on.Done)
			// Undoing with all done, too, and not Undoing what was.
			on.Undoing = !on.Undoing
			holdSaga(t, on)
		}
		if way[len(way)-1].Undoing {
			undone++
		} else {
			whole++
		}
	}
	if whole < 100 || undone < 100 || furthest != impl.MaxSaga {
		t.Error(whole, undone, furthest)
	}
}

// stepOrFail lets a saga fail, where it is to and can, and steps it otherwise.
func stepOrFail(s impl.Saga, fail bool) (impl.Saga, bool) {
	if failed, ok := impl.FailSaga(s); fail && ok {
		return failed, true
	}
	return impl.StepSaga(s)
}

// Step by step it comes to where a run comes to.
func TestRunIsAsSteps(t *testing.T) {
	for seed := range 300 {
		next := numbersFrom(uint64(51000 + seed))
		begin := someFittingSaga(2+next(7), next(impl.MaxSaga+1), next)
		for fail := -1; fail <= len(begin.Moves); fail++ {
			s, steps := begin, 0
			for after, ok := stepOrFail(s, fail == 0); ok; after, ok = stepOrFail(s, fail == steps) {
				s = after
				steps++
			}
			if end, many, ok := impl.RunSaga(begin, fail); !ok || many != steps || !sameSagas(end, s) {
				t.Fatalf("RunSaga %v, %d: %v, %d, %v", begin, fail, end, many, ok)
			}
			if again, more, ok := impl.RunSaga(s, fail); !ok || more != 0 || !sameSagas(again, s) {
				t.Fatalf("RunSaga %v, %d: %v, %d, %v", s, fail, again, more, ok)
			}
		}
	}
}

// hotPotato hands Many on from account to account, round all of them.
func hotPotato(accounts int, moves int, many int) []impl.Move {
	var l []impl.Move
	for i := range moves {
		l = append(l, impl.Move{From: i % accounts, To: (i + 1) % accounts, Many: many})
	}
	return l
}

func TestMostMoves(t *testing.T) {
	l := hotPotato(impl.MaxAccounts, impl.MaxSaga, 1000)
	begin := []int{1000, 0, 0, 0, 0, 0, 0, 0}
	holdNewSaga(t, begin, l)
	s, _ := impl.NewSaga(begin, l)
	end, steps, ok := impl.RunSaga(s, -1)
	if !ok || steps != 20 || end.Done != 20 || end.Undoing || !slices.Equal(end.Accounts, []int{0, 0, 0, 0, 1000, 0, 0, 0}) {
		t.Error(end, steps, ok)
	}
	for fail := range impl.MaxSaga {
		if end, steps, ok := impl.RunSaga(s, fail); !ok || steps != 2*fail+1 || end.Done != 0 || !end.Undoing || !slices.Equal(end.Accounts, begin) {
			t.Error(fail, end, steps, ok)
		}
	}
	// All done and Undoing: all of them back.
	end.Undoing = true
	holdSaga(t, end)
	if back, steps, ok := impl.RunSaga(end, -1); !ok || steps != 20 || back.Done != 0 || !back.Undoing || !slices.Equal(back.Accounts, begin) {
		t.Error(back, steps, ok)
	}
	if over, whole, ok := impl.IsOver(end); over || whole || !ok {
		t.Error(over, whole, ok)
	}
	holdNewSagaRefused(t, begin, hotPotato(8, 21, 1000))
	holdNewSagaRefused(t, begin, hotPotato(8, 1000, 1))
	for done := range 23 {
		holdSagaRefused(t, impl.Saga{Accounts: slices.Repeat([]int{5000}, 8), Moves: hotPotato(8, 21, 1), Done: done})
	}
}

func TestHowManyAccounts(t *testing.T) {
	for count := range 12 {
		for _, n := range []int{0, 1, 1000, 1000000} {
			accounts := slices.Repeat([]int{n}, count)
			if count < 1 || count > 8 {
				holdNewSagaRefused(t, accounts, nil)
				holdNewSagaRefused(t, accounts, []impl.Move{{From: 0, To: 1, Many: 1}})
				continue
			}
			holdNewSaga(t, accounts, nil)
			if sum, ok := impl.SumIn(impl.Saga{Accounts: accounts}); !ok || sum != count*n {
				t.Error(accounts, sum, ok)
			}
			for _, m := range everyMove(9, 1, 1000) {
				if max(m.From, m.To) < count {
					holdNewSaga(t, accounts, []impl.Move{m})
				} else {
					holdNewSagaRefused(t, accounts, []impl.Move{m})
				}
			}
		}
	}
	holdNewSagaRefused(t, make([]int, 1000), nil)
}

// Numbers that are no account's.
var noAmounts = []int{-1, -2, -1000, -1000000, 1000001, 1000002, 1001000, 2000000, 1 << 32, math.MinInt, math.MinInt + 1000, math.MaxInt - 1000, math.MaxInt}

// badMoves are no moves, however many accounts there are.
func badMoves() []impl.Move {
	bad := []impl.Move{{}, {From: 0, To: 0, Many: 1}, {From: 1, To: 1, Many: 1}, {From: 2, To: 2, Many: 1000}}
	for _, n := range []int{0, -1, -1000, 1001, 1002, 2000, 1000000, 1 << 32, math.MinInt, math.MaxInt} {
		bad = append(bad, impl.Move{From: 0, To: 1, Many: n}, impl.Move{From: 2, To: 0, Many: n})
	}
	for _, n := range []int{-1, -2, -8, 8, 9, 1000, 1 << 32, math.MinInt, math.MaxInt, math.MinInt + 1, math.MaxInt - 1} {
		bad = append(bad, impl.Move{From: 0, To: n, Many: 1}, impl.Move{From: n, To: 0, Many: 1}, impl.Move{From: n, To: n, Many: 1}, impl.Move{From: n, To: 1, Many: n})
	}
	return bad
}

// badSagas have something that is not as said.
func badSagas() []impl.Saga {
	l := []impl.Move{{From: 0, To: 1, Many: 5}, {From: 1, To: 2, Many: 3}, {From: 2, To: 0, Many: 1}}
	at := [][]int{{10, 0, 0}, {5, 5, 0}, {5, 2, 3}, {6, 2, 2}}
	bad := []impl.Saga{{}, {Moves: l}, {Undoing: true}, {Accounts: make([]int, 9)}, {Accounts: make([]int, 9), Moves: l}}
	for _, undoing := range []bool{false, true} {
		for _, done := range []int{-1, -2, -20, 4, 5, 20, 21, 1 << 32, math.MinInt, math.MaxInt} {
			bad = append(bad, impl.Saga{Accounts: []int{500, 500, 500}, Moves: l, Done: done, Undoing: undoing})
		}
		bad = append(bad, impl.Saga{Accounts: []int{5}, Done: 1, Undoing: undoing}, impl.Saga{Accounts: []int{5}, Done: -1, Undoing: undoing})
		for done, accounts := range at {
			for place := range accounts {
				for _, n := range noAmounts {
					off := slices.Clone(accounts)
					off[place] = n
					bad = append(bad, impl.Saga{Accounts: off, Moves: l, Done: done, Undoing: undoing})
				}
			}
			for place := range l {
				for _, m := range append(badMoves(), impl.Move{From: 3, To: 0, Many: 1}, impl.Move{From: 0, To: 3, Many: 1}) {
					off := slices.Clone(l)
					off[place] = m
					bad = append(bad, impl.Saga{Accounts: accounts, Moves: off, Done: done, Undoing: undoing})
				}
			}
		}
	}
	return bad
}

func TestBadSagas(t *testing.T) {
	for _, s := range badSagas() {
		holdSagaRefused(t, s)
		if s.Done == 0 {
			holdNewSagaRefused(t, s.Accounts, s.Moves)
		}
	}
	for _, n := range noAmounts {
		holdNewSagaRefused(t, []int{n}, nil)
		holdNewSagaRefused(t, []int{0, 0, 0, 0, 0, 0, 0, n}, nil)
	}
}

// What is done must have been possible: at no step back an account leaves its bounds.
func TestDoneThatCantBeUndone(t *testing.T) {
	const full = 1000000
	for _, undoing := range []bool{false, true} {
		for _, s := range []impl.Saga{
			// To has not what it got, From has no room for what it gave.
			sagaOf([]int{0, 6}, 1, undoing, [3]int{0, 1, 7}),
			sagaOf([]int{0, 0}, 1, undoing, [3]int{0, 1, 1}),
			sagaOf([]int{full - 6, 7}, 1, undoing, [3]int{0, 1, 7}),
			sagaOf([]int{full, full}, 1, undoing, [3]int{0, 1, 1}),
			sagaOf([]int{full, 999}, 1, undoing, [3]int{0, 1, 1000}),
			// The last one can be undone, the one ahead of it can't, and the other way round.
			sagaOf([]int{0, 0, 7}, 2, undoing, [3]int{0, 1, 8}, [3]int{1, 2, 7}),
			sagaOf([]int{0, 7, 6}, 2, undoing, [3]int{0, 1, 7}, [3]int{1, 2, 7}),
			// In the end all would be well, but not on the way back.
			sagaOf([]int{5, 0}, 2, undoing, [3]int{1, 0, 7}, [3]int{0, 1, 7}),
			sagaOf([]int{full - 5, 9}, 2, undoing, [3]int{1, 0, 7}, [3]int{0, 1, 7}),
			// From the first one on it would go, from the last one back it doesn't.
			sagaOf([]int{0, 7, 0}, 2, undoing, [3]int{0, 1, 7}, [3]int{2, 0, 7}),
		} {
			holdSagaRefused(t, s)
			// Where none is done nothing must be undone.
			s.Done = 0
			holdSaga(t, s)
		}
		// Just as much as there is, and just up to the bound.
		for _, s := range []impl.Saga{
			sagaOf([]int{0, 7}, 1, undoing, [3]int{0, 1, 7}),
			sagaOf([]int{full - 7, 7}, 1, undoing, [3]int{0, 1, 7}),
			sagaOf([]int{full - 1000, full}, 1, undoing, [3]int{0, 1, 1000}),
			sagaOf([]int{7, 0}, 2, undoing, [3]int{0, 1, 7}, [3]int{1, 0, 7}),
			sagaOf([]int{full, 3}, 2, undoing, [3]int{0, 1, 7}, [3]int{1, 0, 7}),
		} {
			holdSaga(t, s)
		}
	}
}

func TestSagasThatAreChanged(t *testing.T) {
	good, bad := 0, 0
	for seed := range 4000 {
		next := numbersFrom(uint64(52000 + seed))
		way := sagasOnTheWay(someFittingSaga(2+next(7), 1+next(impl.MaxSaga), next), next(40)-1)
		s := copySaga(way[next(len(way))])
		if len(s.Moves) == 0 {
			continue
		}
		m := &s.Moves[next(len(s.Moves))]
		switch next(5) {
		case 0:
			s.Done = next(len(s.Moves)+3) - 1
		case 1:
			s.Accounts[next(len(s.Accounts))] += next(2001) - 1000
		case 2:
			m.Many += next(1001) - 500
		case 3:
			m.From = next(10) - 1
		default:
			m.To = next(10) - 1
		}
		if holdEitherSaga(t, s) {
			good++
		} else {
			bad++
		}
	}
	if good < 500 || bad < 500 {
		t.Error(good, bad)
	}
}

func TestUndoOf(t *testing.T) {
	for _, m := range everyMove(8, 1, 2, 999, 1000) {
		back, ok := impl.UndoOf(m)
		if !ok || back != (impl.Move{From: m.To, To: m.From, Many: m.Many}) {
			t.Errorf("UndoOf %v: %v, %v", m, back, ok)
		}
		if again, ok := impl.UndoOf(back); !ok || again != m {
			t.Errorf("UndoOf %v: %v, %v", back, again, ok)
		}
	}
	for _, m := range badMoves() {
		if back, ok := impl.UndoOf(m); ok || back != (impl.Move{}) {
			t.Errorf("UndoOf %v: %v, %v", m, back, ok)
		}
	}
}

// The move back, as a move of its own, does what undoing does.
func TestUndoOfUndoes(t *testing.T) {
	for seed := range 200 {
		next := numbersFrom(uint64(53000 + seed))
		begin := someFittingSaga(2+next(7), 1+next(10), next)
		l := slices.Clone(begin.Moves)
		for _, m := range slices.Backward(begin.Moves) {
			back, _ := impl.UndoOf(m)
			l = append(l, back)
		}
		s, ok := impl.NewSaga(begin.Accounts, l)
		if !ok {
			t.Fatalf("NewSaga %v, %v", begin.Accounts, l)
		}
		end, steps, ok := impl.RunSaga(s, -1)
		if !ok || steps != len(l) || end.Undoing || !slices.Equal(end.Accounts, begin.Accounts) {
			t.Fatalf("RunSaga %v: %v, %d, %v", s, end, steps, ok)
		}
	}
}

// Many who ask at once get what one gets.
func TestSagasAskedForAtOnce(t *testing.T) {
	var group sync.WaitGroup
	s, _ := impl.NewSaga([]int{1000, 0, 0}, hotPotato(3, 20, 1000))
	for asker := range 8 {
		group.Go(func() {
			for i := range 40 {
				fail := (asker + i) % 20
				end, steps, ok := impl.RunSaga(s, fail)
				if !ok || steps != 2*fail+1 || end.Done != 0 || !slices.Equal(end.Accounts, s.Accounts) {
					t.Errorf("failing at %d: %v, %d, %v", fail, end, steps, ok)
				}
				if next, ok := impl.StepSaga(s); !ok || !slices.Equal(next.Accounts, []int{0, 1000, 0}) {
					t.Errorf("one step: %v, %v", next, ok)
				}
			}
		})
	}
	group.Wait()
}
