package tests

import (
	"slices"

	"loop.example/g00269/impl"
)

// What the document's words say of sagas, each step of them on its own.

func goodMoveByWords(m impl.Move, accounts int) bool {
	return m.From >= 0 && m.From < accounts && m.To >= 0 && m.To < accounts && m.From != m.To && m.Many >= 1 && m.Many <= 1000
}

func goodAccountsByWords(l []int) bool {
	for _, n := range l {
		if n < 0 || n > 1000000 {
			return false
		}
	}
	return true
}

// movedByWords takes from one account and puts to another one, whatever comes of it.
func movedByWords(accounts []int, from int, to int, many int) []int {
	after := slices.Clone(accounts)
	after[from] -= many
	after[to] += many
	return after
}

func goodSagaByWords(s impl.Saga) bool {
	if len(s.Accounts) < 1 || len(s.Accounts) > 8 || len(s.Moves) > 20 || s.Done < 0 || s.Done > len(s.Moves) {
		return false
	}
	for _, m := range s.Moves {
		if !goodMoveByWords(m, len(s.Accounts)) {
			return false
		}
	}
	left := s.Accounts
	for done := s.Done; done > 0; done-- {
		if !goodAccountsByWords(left) {
			return false
		}
		m := s.Moves[done-1]
		left = movedByWords(left, m.To, m.From, m.Many)
	}
	return goodAccountsByWords(left)
}

// stepSagaByWords takes a good saga.
func stepSagaByWords(s impl.Saga) (impl.Saga, bool) {
	next := copySaga(s)
	switch {
	case s.Undoing && s.Done > 0:
		m := s.Moves[s.Done-1]
		next.Accounts = movedByWords(s.Accounts, m.To, m.From, m.Many)
		next.Done--
	case !s.Undoing && s.Done < len(s.Moves):
		m := s.Moves[s.Done]
		after := movedByWords(s.Accounts, m.From, m.To, m.Many)
		if !goodAccountsByWords(after) {
			next.Undoing = true
			return next, true
		}
		next.Accounts = after
		next.Done++
	default:
		return impl.Saga{}, false
	}
	return next, true
}

func failSagaByWords(s impl.Saga) (impl.Saga, bool) {
	if s.Undoing || s.Done == len(s.Moves) {
		return impl.Saga{}, false
	}
	next := copySaga(s)
	next.Undoing = true
	return next, true
}

// sagasOnTheWay tells the saga that a run begins with, and the one behind each of its steps.
func sagasOnTheWay(s impl.Saga, fail int) []impl.Saga {
	way := []impl.Saga{s}
	for number := 0; ; number++ {
		next, stepped := stepSagaByWords(way[number])
		if failed, can := failSagaByWords(way[number]); can && number == fail {
			next, stepped = failed, true
		}
		if !stepped {
			return way
		}
		way = append(way, next)
	}
}

func sumByWords(accounts []int) int {
	sum := 0
	for _, n := range accounts {
		sum += n
	}
	return sum
}

func copySaga(s impl.Saga) impl.Saga {
	return impl.Saga{Accounts: slices.Clone(s.Accounts), Moves: slices.Clone(s.Moves), Done: s.Done, Undoing: s.Undoing}
}

func sameSagas(a impl.Saga, b impl.Saga) bool {
	return slices.Equal(a.Accounts, b.Accounts) && slices.Equal(a.Moves, b.Moves) && a.Done == b.Done && a.Undoing == b.Undoing
}

func isZeroSaga(s impl.Saga) bool {
	return sameSagas(s, impl.Saga{})
}

// sagaOf makes a saga of moves that are told as From, To and Many.
func sagaOf(accounts []int, done int, undoing bool, rows ...[3]int) impl.Saga {
	s := impl.Saga{Accounts: accounts, Done: done, Undoing: undoing}
	for _, row := range rows {
		s.Moves = append(s.Moves, impl.Move{From: row[0], To: row[1], Many: row[2]})
	}
	return s
}

// everyMove tells all moves of some accounts with each of some numbers.
func everyMove(accounts int, many ...int) []impl.Move {
	var all []impl.Move
	for from := range accounts {
		for to := range accounts {
			for _, n := range many {
				if from != to {
					all = append(all, impl.Move{From: from, To: to, Many: n})
				}
			}
		}
	}
	return all
}

// someMove draws a good move of two accounts at least.
func someMove(accounts int, most int, next func(below int) int) impl.Move {
	from := next(accounts)
	to := (from + 1 + next(accounts-1)) % accounts
	return impl.Move{From: from, To: to, Many: 1 + next(most)}
}

// someAccounts draws so many accounts, most of which have just enough or nearly too much for a few moves.
func someAccounts(count int, most int, next func(below int) int) []int {
	l := make([]int, count)
	for i := range l {
		l[i] = []int{0, 1000000, next(3 * most), 1000000 - next(3*most), next(1000001)}[next(5)]
	}
	return l
}

// someSaga draws a saga of which nothing is done.
func someSaga(accounts int, moves int, next func(below int) int) impl.Saga {
	most := []int{1, 10, 1000}[next(3)]
	s := impl.Saga{Accounts: someAccounts(accounts, most, next)}
	if accounts == 1 {
		return s
	}
	for range moves {
		s.Moves = append(s.Moves, someMove(accounts, most, next))
	}
	return s
}

// someFittingSaga draws a saga whose moves can all be done, as many as there may be.
func someFittingSaga(accounts int, moves int, next func(below int) int) impl.Saga {
	s := someSaga(accounts, 0, next)
	if accounts == 1 {
		return s
	}
	left := s.Accounts
	for tries := 0; tries < 400 && len(s.Moves) < moves; tries++ {
		m := someMove(accounts, 1000, next)
		if after := movedByWords(left, m.From, m.To, m.Many); goodAccountsByWords(after) {
			left = after
			s.Moves = append(s.Moves, m)
		}
	}
	return s
}
