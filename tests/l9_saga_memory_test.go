package tests

import (
	"math"
	"slices"
	"testing"

	"loop.example/g00269/impl"
)

var wrongMove = impl.Move{From: -7, To: 99, Many: -5}

// sagaBehind lays wrong things behind each list of a saga.
func sagaBehind(s impl.Saga) impl.Saga {
	laid := copySaga(s)
	laid.Accounts = behind(s.Accounts)
	laid.Moves = append(laid.Moves, wrongMove, wrongMove, wrongMove)[:len(s.Moves)]
	return laid
}

// wholeSaga copies all that lies in the memory of a saga, up to each capacity.
func wholeSaga(s impl.Saga) impl.Saga {
	s.Accounts = s.Accounts[:cap(s.Accounts)]
	s.Moves = s.Moves[:cap(s.Moves)]
	return copySaga(s)
}

// answeredSagas asks all functions that answer a saga.
func answeredSagas(s impl.Saga) []impl.Saga {
	begun, _ := impl.NewSaga(s.Accounts, s.Moves)
	next, _ := impl.StepSaga(s)
	failed, _ := impl.FailSaga(s)
	all := []impl.Saga{begun, next, failed}
	for _, fail := range []int{math.MinInt, -1, 0, 1, len(s.Moves) - 1, math.MaxInt} {
		end, _, _ := impl.RunSaga(s, fail)
		all = append(all, end)
	}
	return all
}

// What else is told of a saga.
type toldOfSaga struct {
	good, over, whole, isOver, isSum bool
	steps, failedSteps, sum          int
}

func tellSaga(s impl.Saga) toldOfSaga {
	var told toldOfSaga
	told.good = impl.GoodSaga(s)
	told.over, told.whole, told.isOver = impl.IsOver(s)
	told.sum, told.isSum = impl.SumIn(s)
	_, told.steps, _ = impl.RunSaga(s, -1)
	_, told.failedSteps, _ = impl.RunSaga(s, 1)
	return told
}

// holdNothingBehindSaga holds that behind the lists of an answer nothing lies.
func holdNothingBehindSaga(t *testing.T, s impl.Saga) {
	t.Helper()
	for _, n := range s.Accounts[len(s.Accounts):cap(s.Accounts)] {
		if n != 0 {
			t.Fatalf("behind the accounts of %v lies %d", s, n)
		}
	}
	for _, m := range s.Moves[len(s.Moves):cap(s.Moves)] {
		if m != (impl.Move{}) {
			t.Fatalf("behind the moves of %v lies %v", s, m)
		}
	}
}

// fillSaga writes over all that a saga's lists have, up to their capacity.
func fillSaga(s impl.Saga) {
	fillVec(s.Accounts, -5)
	moves := s.Moves[:cap(s.Moves)]
	for i := range moves {
		moves[i] = wrongMove
	}
}

// holdSagaMemory holds that no argument is changed, nothing behind one is read, and no answer shares memory with it or another one.
func holdSagaMemory(t *testing.T, s impl.Saga) {
	t.Helper()
	want, told := answeredSagas(s), tellSaga(s)
	laid := sagaBehind(s)
	kept := wholeSaga(laid)
	for range 2 {
		got := answeredSagas(laid)
		if !slices.EqualFunc(got, want, sameSagas) || tellSaga(laid) != told {
			t.Fatalf("%v: what lies behind a list is read, or an answer was kept", s)
		}
		for i, answered := range got {
			holdNothingBehindSaga(t, answered)
			if !sameSagas(answered, want[i]) {
				t.Fatalf("%v: saga %d of the answers shares memory with another one", s, i)
			}
			fillSaga(answered)
		}
		if !sameSagas(wholeSaga(laid), kept) {
			t.Fatalf("the saga %v, or what lies behind it, is written into", s)
		}
	}
}

func TestSagasAreLeftAlone(t *testing.T) {
	for seed := range 200 {
		next := numbersFrom(uint64(54000 + seed))
		for _, s := range sagasOnTheWay(someFittingSaga(1+next(8), next(21), next), next(30)-1) {
			holdSagaMemory(t, s)
			s.Undoing = !s.Undoing
			holdSagaMemory(t, s)
		}
		holdSagaMemory(t, someSaga(1+next(8), next(21), next))
	}
	holdSagaMemory(t, impl.Saga{Accounts: []int{0}})
	holdSagaMemory(t, impl.Saga{Accounts: []int{0}, Moves: []impl.Move{}, Undoing: true})
	holdSagaMemory(t, impl.Saga{Accounts: slices.Repeat([]int{1000}, 8), Moves: hotPotato(8, 20, 1)})
}

func TestBadSagasAreLeftAlone(t *testing.T) {
	for _, s := range badSagas() {
		holdSagaMemory(t, s)
	}
	holdSagaMemory(t, impl.Saga{Accounts: slices.Repeat([]int{1000}, 8), Moves: hotPotato(8, 21, 1)})
	holdSagaMemory(t, impl.Saga{Accounts: []int{}, Moves: []impl.Move{}})
}

func TestSagaBehindTheList(t *testing.T) {
	accounts := []int{5, 5, 5, -1, 5, 5, 5, 5, 5}
	l := []impl.Move{{From: 0, To: 1, Many: 1}, {From: 1, To: 2, Many: 1}, {From: 2, To: 0, Many: 0}, {From: 0, To: 1, Many: 1}}
	for length := range 10 {
		if got := impl.GoodSaga(impl.Saga{Accounts: accounts[:length]}); got != (length >= 1 && length <= 3) {
			t.Error(length, got)
		}
	}
	for length := range 5 {
		if _, ok := impl.NewSaga(accounts[:3], l[:length]); ok != (length <= 2) {
			t.Error(length, ok)
		}
		// A move behind the list is none that could be done, nor be done already.
		s := impl.Saga{Accounts: accounts[:3], Moves: l[:length], Done: length}
		if next, ok := impl.StepSaga(s); ok || !isZeroSaga(next) {
			t.Error(length, next, ok)
		}
		s.Done++
		if impl.GoodSaga(s) {
			t.Error(s)
		}
	}
	// An account behind the list is none that a move could go to.
	if _, ok := impl.NewSaga(accounts[:2], l[:2]); ok {
		t.Error("account 2 is read behind two of them")
	}
}

// The lists of several sagas may lie in one memory; nothing is to be seen of it.
func TestSagasInOneMemory(t *testing.T) {
	accounts := []int{3, 0, 4, 1000000, 2}
	l := hotPotato(2, 6, 1)
	keptAccounts, keptMoves := slices.Clone(accounts), slices.Clone(l)
	for from := range accounts {
		for to := from; to <= len(accounts); to++ {
			for moves := range l {
				s := impl.Saga{Accounts: accounts[from:to], Moves: l[moves:]}
				apart := copySaga(s)
				if tellSaga(s) != tellSaga(apart) || !slices.EqualFunc(answeredSagas(s), answeredSagas(apart), sameSagas) {
					t.Errorf("%v is answered otherwise where it lies in another memory", s)
				}
				for _, answered := range answeredSagas(s) {
					fillSaga(answered)
				}
				if !slices.Equal(accounts, keptAccounts) || !slices.Equal(l, keptMoves) {
					t.Fatal("an answer lies in the memory of an argument")
				}
			}
		}
	}
}
