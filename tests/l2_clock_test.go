package tests

import (
	"math"
	"slices"
	"testing"

	"loop.example/g00269/impl"
)

// aheadByDefinition tells which act is ahead of which, by going the document's words over until nothing is new.
func aheadByDefinition(l []impl.Act) [][]bool {
	ahead := make([][]bool, len(l))
	for a := range l {
		ahead[a] = make([]bool, len(l))
		for b := range l {
			ahead[a][b] = a < b && l[a].Proc == l[b].Proc || l[b].From == a
		}
	}
	for grown := true; grown; {
		grown = false
		for a := range l {
			for b := range l {
				for c := range l {
					if ahead[a][b] && ahead[b][c] && !ahead[a][c] {
						ahead[a][c] = true
						grown = true
					}
				}
			}
		}
	}
	return ahead
}

func lamportByDefinition(l []impl.Act, ahead [][]bool) []int {
	numbers := make([]int, len(l))
	for b := range l {
		numbers[b] = 1
		for a := range b {
			if ahead[a][b] {
				numbers[b] = max(numbers[b], numbers[a]+1)
			}
		}
	}
	return numbers
}

func vectorsByDefinition(procs int, l []impl.Act, ahead [][]bool) [][]int {
	vectors := make([][]int, len(l))
	for b := range l {
		vectors[b] = make([]int, procs)
		for a := range l {
			if a == b || ahead[a][b] {
				vectors[b][l[a].Proc]++
			}
		}
	}
	return vectors
}

func compareByDefinition(a []int, b []int) int {
	less, greater := false, false
	for i := range a {
		less = less || a[i] < b[i]
		greater = greater || a[i] > b[i]
	}
	switch {
	case less && greater:
		return 2
	case less:
		return -1
	case greater:
		return 1
	}
	return 0
}

func wholeByDefinition(l []impl.Act, ahead [][]bool, cut []int) bool {
	inCut := make([]bool, len(l))
	met := make([]int, len(cut))
	for i, act := range l {
		inCut[i] = met[act.Proc] < cut[act.Proc]
		met[act.Proc]++
	}
	for a := range l {
		for b := range l {
			if inCut[b] && ahead[a][b] && !inCut[a] {
				return false
			}
		}
	}
	return true
}

func actsOfEach(procs int, l []impl.Act) []int {
	all := make([]int, procs)
	for _, act := range l {
		all[act.Proc]++
	}
	return all
}

// everyCut hands each list of numbers within 0..all[p] to use.
func everyCut(all []int, use func(cut []int)) {
	cut := make([]int, len(all))
	for {
		use(cut)
		p := 0
		for p < len(cut) && cut[p] == all[p] {
			cut[p] = 0
			p++
		}
		if p == len(cut) {
			return
		}
		cut[p]++
	}
}

// everyActs hands each good list of that many acts to use.
func everyActs(procs int, count int, l []impl.Act, use func(l []impl.Act)) {
	if count == len(l) {
		use(l)
		return
	}
	for proc := range procs {
		for from := -1; from < len(l); from++ {
			if from >= 0 && l[from].Proc == proc {
				continue
			}
			everyActs(procs, count, append(slices.Clone(l), impl.Act{Proc: proc, From: from}), use)
		}
	}
}

// numbersFrom makes a row of numbers out of a seed, the same one each time.
func numbersFrom(seed uint64) func(below int) int {
	return func(below int) int {
		seed = seed*6364136223846793005 + 1442695040888963407
		return int(seed>>33) % below
	}
}

// someActs makes good acts out of a seed, with a message at about every second one.
func someActs(procs int, count int, seed uint64) []impl.Act {
	next := numbersFrom(seed)
	var l []impl.Act
	for i := range count {
		act := impl.Act{Proc: next(procs), From: -1}
		if i > 0 && next(2) == 0 {
			if from := next(i); l[from].Proc != act.Proc {
				act.From = from
			}
		}
		l = append(l, act)
	}
	return l
}

// holdActs holds all that is told of good acts against the document's words.
func holdActs(t *testing.T, procs int, l []impl.Act) [][]bool {
	t.Helper()
	if !impl.GoodActs(procs, l) {
		t.Fatalf("GoodActs refuses %d, %v", procs, l)
	}
	ahead := aheadByDefinition(l)
	numbers, ok := impl.LamportOf(procs, l)
	if !ok || !slices.Equal(numbers, lamportByDefinition(l, ahead)) {
		t.Fatalf("LamportOf %d, %v: %v, %v", procs, l, numbers, ok)
	}
	vectors, ok := impl.VectorsOf(procs, l)
	if !ok || !slices.EqualFunc(vectors, vectorsByDefinition(procs, l, ahead), slices.Equal[[]int]) {
		t.Fatalf("VectorsOf %d, %v: %v, %v", procs, l, vectors, ok)
	}
	for a := range l {
		for b := range l {
			if got, ok := impl.AheadOf(procs, l, a, b); !ok || got != ahead[a][b] {
				t.Fatalf("AheadOf %d, %v, %d, %d: %v, %v", procs, l, a, b, got, ok)
			}
			// The promise: ahead just where the vector is less, and then the Lamport number is.
			c, ok := impl.CompareVec(vectors[a], vectors[b])
			if !ok || (c == -1) != ahead[a][b] || (c == 0) != (a == b) {
				t.Fatalf("CompareVec of acts %d, %d of %v: %d, %v", a, b, l, c, ok)
			}
			if c == -1 && numbers[a] >= numbers[b] {
				t.Fatalf("act %d is ahead of %d in %v, its number is %d, not below %d", a, b, l, numbers[a], numbers[b])
			}
		}
	}
	return ahead
}

func holdCut(t *testing.T, procs int, l []impl.Act, ahead [][]bool, cut []int) {
	t.Helper()
	want := wholeByDefinition(l, ahead, cut)
	if got, ok := impl.CutIsWhole(procs, l, cut); !ok || got != want {
		t.Fatalf("CutIsWhole %d, %v, %v: %v, %v", procs, l, cut, got, ok)
	}
}

func TestEveryFewActs(t *testing.T) {
	for _, size := range []struct{ procs, most int }{{1, 5}, {2, 5}, {3, 4}, {4, 3}, {impl.MaxProcs, 3}} {
		for count := range size.most + 1 {
			everyActs(size.procs, count, nil, func(l []impl.Act) {
				ahead := holdActs(t, size.procs, l)
				everyCut(actsOfEach(size.procs, l), func(cut []int) { holdCut(t, size.procs, l, ahead, cut) })
			})
		}
	}
}

func TestManyActs(t *testing.T) {
	for procs := 1; procs <= impl.MaxProcs; procs++ {
		for _, count := range []int{0, 1, 2, 7, 20, impl.MaxActs - 1, impl.MaxActs} {
			l := someActs(procs, count, uint64(100*procs+count))
			ahead := holdActs(t, procs, l)
			all := actsOfEach(procs, l)
			holdCut(t, procs, l, ahead, make([]int, procs))
			holdCut(t, procs, l, ahead, all)
			for p := range procs {
				// Cuts with one Proc's acts taken away, or left alone, one more at each step.
				for n := range all[p] + 1 {
					cut := slices.Clone(all)
					cut[p] = n
					holdCut(t, procs, l, ahead, cut)
					cut = make([]int, procs)
					cut[p] = n
					holdCut(t, procs, l, ahead, cut)
				}
			}
			vectors, _ := impl.VectorsOf(procs, l)
			for _, cut := range vectors {
				// All that is ahead of one act, with it, is a whole cut.
				if whole, ok := impl.CutIsWhole(procs, l, cut); !whole || !ok {
					t.Fatalf("CutIsWhole %v, %v: %v, %v", l, cut, whole, ok)
				}
			}
		}
	}
}

func TestNamedActs(t *testing.T) {
	// Two who answer each other, and a third one who hears of it last.
	l := []impl.Act{{Proc: 0, From: -1}, {Proc: 1, From: 0}, {Proc: 0, From: 1}, {Proc: 2, From: -1}, {Proc: 2, From: 2}}
	numbers, ok := impl.LamportOf(3, l)
	if !ok || !slices.Equal(numbers, []int{1, 2, 3, 1, 4}) {
		t.Error(numbers, ok)
	}
	vectors, ok := impl.VectorsOf(3, l)
	want := [][]int{{1, 0, 0}, {1, 1, 0}, {2, 1, 0}, {0, 0, 1}, {2, 1, 2}}
	if !ok || !slices.EqualFunc(vectors, want, slices.Equal[[]int]) {
		t.Error(vectors, ok)
	}
	cuts := []struct {
		cut   []int
		whole bool
	}{
		{[]int{0, 0, 0}, true}, {[]int{2, 1, 2}, true}, {[]int{1, 0, 0}, true}, {[]int{0, 1, 0}, false},
		{[]int{1, 1, 1}, true}, {[]int{1, 1, 2}, false}, {[]int{2, 0, 0}, false}, {[]int{0, 0, 1}, true},
	}
	for _, c := range cuts {
		if whole, ok := impl.CutIsWhole(3, l, c.cut); !ok || whole != c.whole {
			t.Error(c.cut, whole, ok)
		}
	}
}

func TestNoActIsAheadOfItself(t *testing.T) {
	for procs := 1; procs <= impl.MaxProcs; procs++ {
		l := someActs(procs, impl.MaxActs, uint64(procs))
		for a := range l {
			if ahead, ok := impl.AheadOf(procs, l, a, a); ahead || !ok {
				t.Errorf("act %d of %v: %v, %v", a, l, ahead, ok)
			}
		}
	}
}

func TestNoActs(t *testing.T) {
	for procs := 1; procs <= impl.MaxProcs; procs++ {
		for _, l := range [][]impl.Act{nil, {}} {
			if !impl.GoodActs(procs, l) {
				t.Error("no acts are refused")
			}
			if n, ok := impl.LamportOf(procs, l); len(n) != 0 || !ok {
				t.Error(n, ok)
			}
			if v, ok := impl.VectorsOf(procs, l); len(v) != 0 || !ok {
				t.Error(v, ok)
			}
			if whole, ok := impl.CutIsWhole(procs, l, make([]int, procs)); !whole || !ok {
				t.Error(whole, ok)
			}
			if ahead, ok := impl.AheadOf(procs, l, 0, 0); ahead || ok {
				t.Error(ahead, ok)
			}
		}
	}
}

// badActs has one thing that is not as said in each.
func badActs() []struct {
	procs int
	l     []impl.Act
} {
	good := []impl.Act{{Proc: 0, From: -1}, {Proc: 1, From: 0}, {Proc: 0, From: -1}}
	type acts = struct {
		procs int
		l     []impl.Act
	}
	var bad []acts
	for _, procs := range []int{0, -1, impl.MaxProcs + 1, 1, math.MinInt, math.MaxInt} {
		bad = append(bad, acts{procs, good})
	}
	for _, procs := range []int{0, -1, impl.MaxProcs + 1, math.MinInt, math.MaxInt} {
		bad = append(bad, acts{procs, nil})
	}
	bad = append(bad, acts{impl.MaxProcs, someActs(impl.MaxProcs, impl.MaxActs+1, 1)}, acts{1, someActs(1, impl.MaxActs+1, 1)})
	with := func(i int, act impl.Act) {
		l := slices.Clone(good)
		l[i] = act
		bad = append(bad, acts{2, l})
	}
	for _, proc := range []int{-1, 2, math.MinInt, math.MaxInt} {
		for i := range good {
			with(i, impl.Act{Proc: proc, From: -1})
		}
		with(1, impl.Act{Proc: proc, From: 0})
	}
	for _, from := range []int{0, 1, 2, 3, -2, math.MinInt, math.MaxInt} {
		with(0, impl.Act{Proc: 0, From: from})
		with(0, impl.Act{Proc: 1, From: from})
	}
	for _, from := range []int{1, 2, 3, -2, math.MinInt, math.MaxInt} {
		with(1, impl.Act{Proc: 1, From: from})
	}
	for _, from := range []int{0, 2, 3, -2, math.MinInt, math.MaxInt} {
		with(2, impl.Act{Proc: 0, From: from})
	}
	with(2, impl.Act{Proc: 1, From: 1})
	return bad
}

func TestBadActs(t *testing.T) {
	for _, bad := range badActs() {
		if impl.GoodActs(bad.procs, bad.l) {
			t.Errorf("GoodActs takes %d, %v", bad.procs, bad.l)
		}
		if n, ok := impl.LamportOf(bad.procs, bad.l); len(n) != 0 || ok {
			t.Errorf("LamportOf %d, %v: %v, %v", bad.procs, bad.l, n, ok)
		}
		if v, ok := impl.VectorsOf(bad.procs, bad.l); len(v) != 0 || ok {
			t.Errorf("VectorsOf %d, %v: %v, %v", bad.procs, bad.l, v, ok)
		}
		for _, b := range []int{-1, 0, 1, 2} {
			if ahead, ok := impl.AheadOf(bad.procs, bad.l, 0, b); ahead || ok {
				t.Errorf("AheadOf %d, %v, 0, %d: %v, %v", bad.procs, bad.l, b, ahead, ok)
			}
		}
		for n := range impl.MaxProcs + 2 {
			if whole, ok := impl.CutIsWhole(bad.procs, bad.l, make([]int, n)); whole || ok {
				t.Errorf("CutIsWhole %d, %v, %d noughts: %v, %v", bad.procs, bad.l, n, whole, ok)
			}
		}
	}
}

func TestActsAtTheirBounds(t *testing.T) {
	// From the first of all and from the act right ahead, of the first and of the last Proc.
	l := []impl.Act{{Proc: 0, From: -1}, {Proc: 5, From: 0}, {Proc: 0, From: 1}, {Proc: 5, From: 0}, {Proc: 1, From: 3}}
	holdActs(t, impl.MaxProcs, l)
	if impl.GoodActs(impl.MaxProcs-1, l) {
		t.Error("a Proc beyond procs is taken")
	}
	long := []impl.Act{{Proc: 0, From: -1}}
	for i := 1; i < impl.MaxActs; i++ {
		// Each one hears of the one right ahead, so that all stand in one row.
		long = append(long, impl.Act{Proc: i % impl.MaxProcs, From: i - 1})
	}
	holdActs(t, impl.MaxProcs, long)
	if n, ok := impl.LamportOf(impl.MaxProcs, long); !ok || n[impl.MaxActs-1] != impl.MaxActs {
		t.Error(n, ok)
	}
	if impl.GoodActs(impl.MaxProcs, append(long, impl.Act{Proc: 0, From: -1})) {
		t.Error("an act too many is taken")
	}
}

func TestAheadOfBadNumbers(t *testing.T) {
	l := []impl.Act{{Proc: 0, From: -1}, {Proc: 1, From: 0}, {Proc: 0, From: -1}}
	for _, n := range []int{-1, 3, 4, math.MinInt, math.MaxInt} {
		for a := range l {
			if ahead, ok := impl.AheadOf(2, l, a, n); ahead || ok {
				t.Error(a, n, ahead, ok)
			}
			if ahead, ok := impl.AheadOf(2, l, n, a); ahead || ok {
				t.Error(n, a, ahead, ok)
			}
		}
		if ahead, ok := impl.AheadOf(2, l, n, n); ahead || ok {
			t.Error(n, n, ahead, ok)
		}
	}
}

func TestBadCuts(t *testing.T) {
	l := []impl.Act{{Proc: 0, From: -1}, {Proc: 1, From: 0}, {Proc: 0, From: -1}}
	cuts := [][]int{
		nil, {}, {2}, {2, 1, 0}, {0, 0, 0}, {3, 1}, {2, 2}, {0, 2}, {-1, 1}, {2, -1}, {-1, -1}, {1, 1, 1, 1, 1, 1, 1},
		{math.MaxInt, 1}, {math.MinInt, 1}, {2, math.MaxInt}, {2, math.MinInt},
	}
	for _, cut := range cuts {
		if whole, ok := impl.CutIsWhole(2, l, cut); whole || ok {
			t.Error(cut, whole, ok)
		}
	}
	// A Proc that does nothing has none to be in a cut.
	if whole, ok := impl.CutIsWhole(3, l, []int{2, 1, 1}); whole || ok {
		t.Error(whole, ok)
	}
}

func TestEveryShortVec(t *testing.T) {
	values := []int{math.MinInt, -1, 0, 1, math.MaxInt}
	for length := range 4 {
		var lists [][]int
		places := make([]int, length)
		for i := range places {
			places[i] = len(values) - 1
		}
		everyCut(places, func(cut []int) {
			l := make([]int, length)
			for i, n := range cut {
				l[i] = values[n]
			}
			lists = append(lists, l)
		})
		for _, a := range lists {
			for _, b := range lists {
				holdVecs(t, a, b)
			}
		}
	}
}

func holdVecs(t *testing.T, a []int, b []int) {
	t.Helper()
	if c, ok := impl.CompareVec(a, b); !ok || c != compareByDefinition(a, b) {
		t.Fatalf("CompareVec %v, %v: %d, %v", a, b, c, ok)
	}
	want := make([]int, len(a))
	for i := range a {
		want[i] = max(a[i], b[i])
	}
	if j, ok := impl.JoinVec(a, b); !ok || !slices.Equal(j, want) {
		t.Fatalf("JoinVec %v, %v: %v, %v", a, b, j, ok)
	}
}

func TestLongVecs(t *testing.T) {
	same := []int{4, -2, 0, 7, 1, 3}
	for length := range impl.MaxProcs + 1 {
		holdVecs(t, same[:length], slices.Clone(same[:length]))
		for i := range length {
			// One place less, and two places that tell against each other.
			a := slices.Clone(same[:length])
			a[i]--
			holdVecs(t, a, same[:length])
			holdVecs(t, same[:length], a)
			for j := range i {
				b := slices.Clone(same[:length])
				b[j]--
				holdVecs(t, a, b)
			}
		}
	}
}

func TestBadVecs(t *testing.T) {
	for n := range impl.MaxProcs + 3 {
		for m := range impl.MaxProcs + 3 {
			if n == m && n <= impl.MaxProcs {
				continue
			}
			a, b := make([]int, n), make([]int, m)
			if c, ok := impl.CompareVec(a, b); c != 0 || ok {
				t.Error(n, m, c, ok)
			}
			if j, ok := impl.JoinVec(a, b); len(j) != 0 || ok {
				t.Error(n, m, j, ok)
			}
			if n > 0 {
				// Unlike numbers tell nothing either.
				a[0] = -1
				if c, ok := impl.CompareVec(a, b); c != 0 || ok {
					t.Error(n, m, c, ok)
				}
			}
		}
	}
}
