package tests

import (
	"math"
	"slices"
	"sync"
	"testing"

	"loop.example/g00269/impl"
)

// Numbers that are no facts.
var noFacts = []int{-1, -2, -40, 40, 41, 60, 64, 1 << 32, math.MinInt, math.MinInt + 40, math.MaxInt - 39, math.MaxInt}

// holdSetOfRules holds what one set is told of, against the document's words.
func holdSetOfRules(t *testing.T, l []impl.Rule, m []int) {
	t.Helper()
	if is, ok := impl.IsModel(l, m); !ok || is != isModelByWords(l, m) {
		t.Fatalf("IsModel %v, %v: %v, %v", l, m, is, ok)
	}
	if next, ok := impl.StepOnce(l, m); !ok || !slices.Equal(next, stepByRules(l, m)) {
		t.Fatalf("StepOnce %v, %v: %v, %v", l, m, next, ok)
	}
}

// holdLeast holds the least model: what it is, in how many steps, and that with anything less it is none.
func holdLeast(t *testing.T, l []impl.Rule, facts []int) []int {
	t.Helper()
	came, wantWork, _ := leastByWords(l, facts)
	least, work, ok := impl.LeastModel(l, facts)
	if !ok || work != wantWork || work > bodiesOf(l) || !slices.Equal(least, slices.Sorted(slices.Values(came))) {
		t.Fatalf("LeastModel %v, %v: %v, %d, %v", l, facts, least, work, ok)
	}
	if all, ok := impl.Closure(l, facts); !ok || !slices.Equal(all, closureByWords(l, facts)) || !slices.Equal(all, least) {
		t.Fatalf("Closure %v, %v: %v, %v", l, facts, all, ok)
	}
	if is, ok := impl.IsModel(l, least); !is || !ok || !allIn(facts, least) {
		t.Fatalf("%v, %v: %v is no model with all facts", l, facts, least)
	}
	for i, n := range least {
		less := slices.Delete(slices.Clone(least), i, i+1)
		if is, ok := impl.IsModel(l, less); is && !slices.Contains(facts, n) || !ok {
			t.Fatalf("%v, %v: %v is a model without %d", l, facts, less, n)
		}
	}
	return least
}

// holdGoal holds what is told of one goal; it tells by how many rules it follows, or -1.
func holdGoal(t *testing.T, l []impl.Rule, facts []int, goal int) int {
	t.Helper()
	want, follows := whyByWords(l, facts, goal)
	if got, ok := impl.Follows(l, facts, goal); !ok || got != follows || got != slices.Contains(closureByWords(l, facts), goal) {
		t.Fatalf("Follows %v, %v, %d: %v, %v", l, facts, goal, got, ok)
	}
	why, ok := impl.WhyOf(l, facts, goal)
	if ok != follows || !slices.Equal(why, want) {
		t.Fatalf("WhyOf %v, %v, %d: %v, %v, not %v, %v", l, facts, goal, why, ok, want, follows)
	}
	if !follows {
		return -1
	}
	if !isWhy(l, facts, goal, why) {
		t.Fatalf("WhyOf %v, %v, %d: by %v it does not follow", l, facts, goal, why)
	}
	for i := range why {
		if isWhy(l, facts, goal, slices.Delete(slices.Clone(why), i, i+1)) {
			t.Fatalf("WhyOf %v, %v, %d: of %v number %d may be left out", l, facts, goal, why, i)
		}
	}
	return len(why)
}

// holdRules holds all that is told of good rules and facts.
func holdRules(t *testing.T, l []impl.Rule, facts []int) {
	t.Helper()
	if !impl.GoodRules(l) {
		t.Fatalf("GoodRules refuses %v", l)
	}
	holdSetOfRules(t, l, facts)
	holdLeast(t, l, facts)
	for goal := range impl.MaxFacts {
		holdGoal(t, l, facts, goal)
	}
}

// holdGoalRefused holds that a number that is no fact is no goal.
func holdGoalRefused(t *testing.T, l []impl.Rule, facts []int, goal int) {
	t.Helper()
	if got, ok := impl.Follows(l, facts, goal); got || ok {
		t.Fatalf("Follows %v, %v, %d: %v, %v", l, facts, goal, got, ok)
	}
	if why, ok := impl.WhyOf(l, facts, goal); len(why) != 0 || ok {
		t.Fatalf("WhyOf %v, %v, %d: %v, %v", l, facts, goal, why, ok)
	}
}

// holdRulesRefused holds the zero answer of each function, where the rules or the set are not good.
func holdRulesRefused(t *testing.T, l []impl.Rule, m []int) {
	t.Helper()
	if least, work, ok := impl.LeastModel(l, m); len(least) != 0 || work != 0 || ok {
		t.Fatalf("LeastModel %v, %v: %v, %d, %v", l, m, least, work, ok)
	}
	if is, ok := impl.IsModel(l, m); is || ok {
		t.Fatalf("IsModel %v, %v: %v, %v", l, m, is, ok)
	}
	if next, ok := impl.StepOnce(l, m); len(next) != 0 || ok {
		t.Fatalf("StepOnce %v, %v: %v, %v", l, m, next, ok)
	}
	if all, ok := impl.Closure(l, m); len(all) != 0 || ok {
		t.Fatalf("Closure %v, %v: %v, %v", l, m, all, ok)
	}
	for _, goal := range []int{math.MinInt, -1, 0, 1, 2, 39, 40, math.MaxInt} {
		holdGoalRefused(t, l, m, goal)
	}
}

// holdBadRules holds that rules are refused whatever the set is.
func holdBadRules(t *testing.T, l []impl.Rule) {
	t.Helper()
	if impl.GoodRules(l) {
		t.Fatalf("GoodRules takes %v", l)
	}
	for _, m := range [][]int{nil, {0}, {0, 39}, {1, 0}, {40}, numbersBelow(40)} {
		holdRulesRefused(t, l, m)
	}
}

// What a list of rules is to tell.
type rulesCase struct {
	// Of each rule its Head, then its Body.
	rows  [][]int
	facts []int
	step  []int
	least []int
	work  int
	// For each fact by which rules it follows; what is not here does not follow.
	why map[int][]int
}

func (c rulesCase) hold(t *testing.T) {
	t.Helper()
	l := make([]impl.Rule, len(c.rows))
	for rule, row := range c.rows {
		l[rule] = impl.Rule{Head: row[0], Body: row[1:]}
	}
	holdRules(t, l, c.facts)
	if next, ok := impl.StepOnce(l, c.facts); !ok || !slices.Equal(next, c.step) {
		t.Errorf("StepOnce %v, %v: %v, %v", l, c.facts, next, ok)
	}
	if least, work, ok := impl.LeastModel(l, c.facts); !ok || work != c.work || !slices.Equal(least, c.least) {
		t.Errorf("LeastModel %v, %v: %v, %d, %v", l, c.facts, least, work, ok)
	}
	if all, ok := impl.Closure(l, c.facts); !ok || !slices.Equal(all, c.least) {
		t.Errorf("Closure %v, %v: %v, %v", l, c.facts, all, ok)
	}
	if is, ok := impl.IsModel(l, c.facts); !ok || is != slices.Equal(c.facts, c.least) {
		t.Errorf("IsModel %v, %v: %v, %v", l, c.facts, is, ok)
	}
	for goal := range impl.MaxFacts {
		want, follows := c.why[goal]
		if got, ok := impl.Follows(l, c.facts, goal); got != follows || !ok {
			t.Errorf("Follows %v, %v, %d: %v, %v", l, c.facts, goal, got, ok)
		}
		if why, ok := impl.WhyOf(l, c.facts, goal); ok != follows || !slices.Equal(why, want) {
			t.Errorf("WhyOf %v, %v, %d: %v, %v", l, c.facts, goal, why, ok)
		}
	}
}

func TestNamedRules(t *testing.T) {
	cases := []rulesCase{
		// No rules.
		{nil, nil, nil, nil, 0, nil},
		{[][]int{}, []int{0, 39}, []int{0, 39}, []int{0, 39}, 0, map[int][]int{0: nil, 39: nil}},
		// By one rule, from the least fact to the greatest one, and back.
		{[][]int{{39, 0}}, []int{0}, []int{0, 39}, []int{0, 39}, 1, map[int][]int{0: nil, 39: {0}}},
		{[][]int{{0, 39}}, []int{39}, []int{0, 39}, []int{0, 39}, 1, map[int][]int{39: nil, 0: {0}}},
		// Not all of a Body.
		{[][]int{{5, 1, 2, 3}}, []int{1, 3}, []int{1, 3}, []int{1, 3}, 2, map[int][]int{1: nil, 3: nil}},
		{[][]int{{5, 1, 2, 3}}, nil, nil, nil, 0, nil},
		// By a row of rules, last to first.
		{[][]int{{4, 3}, {3, 2}, {2, 1}}, []int{1}, []int{1, 2}, []int{1, 2, 3, 4}, 3, map[int][]int{1: nil, 2: {2}, 3: {2, 1}, 4: {2, 1, 0}}},
		// In one step nothing comes of what came in it.
		{[][]int{{2, 1}, {3, 2}}, []int{1}, []int{1, 2}, []int{1, 2, 3}, 2, map[int][]int{1: nil, 2: {0}, 3: {0, 1}}},
		// Both ways to a Body of two, the one shared rule told once.
		{[][]int{{2, 1}, {3, 2}, {4, 2}, {5, 3, 4}}, []int{1}, []int{1, 2}, []int{1, 2, 3, 4, 5}, 5, map[int][]int{1: nil, 2: {0}, 3: {0, 1}, 4: {0, 2}, 5: {0, 1, 2, 3}}},
		// An empty Body.
		{[][]int{{7}}, nil, []int{7}, []int{7}, 0, map[int][]int{7: {0}}},
		{[][]int{{9, 7}, {7}, {8}}, nil, []int{7, 8}, []int{7, 8, 9}, 1, map[int][]int{7: {1}, 8: {2}, 9: {1, 0}}},
		// Of a row of them each stands at its place, whatever the heads are.
		{[][]int{{5}, {3}, {7, 3, 5}}, nil, []int{3, 5}, []int{3, 5, 7}, 2, map[int][]int{5: {0}, 3: {1}, 7: {0, 1, 2}}},
		// Two alike, two with one Head, each time the first one.
		{[][]int{{2, 1}, {2, 1}}, []int{1}, []int{1, 2}, []int{1, 2}, 2, map[int][]int{1: nil, 2: {0}}},
		{[][]int{{7}, {7}}, nil, []int{7}, []int{7}, 0, map[int][]int{7: {0}}},
		{[][]int{{9, 2}, {9, 1}}, []int{1}, []int{1, 9}, []int{1, 9}, 1, map[int][]int{1: nil, 9: {1}}},
		{[][]int{{9, 2}, {9, 1}}, []int{2}, []int{2, 9}, []int{2, 9}, 1, map[int][]int{2: nil, 9: {0}}},
		// The fact that is taken first decides, not the rule that stands first.
		{[][]int{{9, 2}, {9, 1}}, []int{1, 2}, []int{1, 2, 9}, []int{1, 2, 9}, 2, map[int][]int{1: nil, 2: nil, 9: {1}}},
		// Facts are taken ahead of heads, and heads in the order of their coming.
		{[][]int{{9, 30}, {2, 1}, {9, 2}}, []int{1, 30}, []int{1, 2, 9, 30}, []int{1, 2, 9, 30}, 3, map[int][]int{1: nil, 30: nil, 2: {1}, 9: {0}}},
		{[][]int{{9, 3}, {2, 1}, {3, 2}, {9, 2}}, []int{1}, []int{1, 2}, []int{1, 2, 3, 9}, 4, map[int][]int{1: nil, 2: {1}, 3: {1, 2}, 9: {1, 3}}},
		// A Head in its own Body.
		{[][]int{{3, 3}}, nil, nil, nil, 0, nil},
		{[][]int{{3, 3}}, []int{3}, []int{3}, []int{3}, 1, map[int][]int{3: nil}},
		{[][]int{{3, 1, 3}, {3, 2}, {2, 1}}, []int{1}, []int{1, 2}, []int{1, 2, 3}, 4, map[int][]int{1: nil, 2: {2}, 3: {2, 1}}},
		// A Head that is a fact too, by a Body that is there and by one that is empty.
		{[][]int{{2, 1}, {3, 2}}, []int{1, 2}, []int{1, 2, 3}, []int{1, 2, 3}, 2, map[int][]int{1: nil, 2: nil, 3: {1}}},
		{[][]int{{2}, {3, 2}}, []int{2}, []int{2, 3}, []int{2, 3}, 1, map[int][]int{2: nil, 3: {1}}},
		// A ring that nothing leads into, one that is led into, and one of which all are facts.
		{[][]int{{2, 1}, {3, 2}, {1, 3}}, nil, nil, nil, 0, nil},
		{[][]int{{2, 1}, {3, 2}, {1, 3}, {3, 4}}, []int{4}, []int{3, 4}, []int{1, 2, 3, 4}, 4, map[int][]int{4: nil, 3: {3}, 1: {3, 2}, 2: {3, 2, 0}}},
		{[][]int{{2, 1}, {3, 2}, {1, 3}}, []int{1, 2, 3}, []int{1, 2, 3}, []int{1, 2, 3}, 3, map[int][]int{1: nil, 2: nil, 3: nil}},
		// Rules that came first and are not needed.
		{[][]int{{2, 1}, {3, 1}, {4, 3}}, []int{1}, []int{1, 2, 3}, []int{1, 2, 3, 4}, 3, map[int][]int{1: nil, 2: {0}, 3: {1}, 4: {1, 2}}},
		{[][]int{{8}, {2, 8}, {4, 1}}, []int{1}, []int{1, 4, 8}, []int{1, 2, 4, 8}, 2, map[int][]int{1: nil, 8: {0}, 2: {0, 1}, 4: {2}}},
	}
	for _, c := range cases {
		c.hold(t)
	}
}

// The heads of rules with an empty Body come ahead of all, so also of facts with lesser numbers.
func TestEmptyBodiesComeAheadOfAll(t *testing.T) {
	cases := []rulesCase{
		{[][]int{{2}, {5, 1}, {5, 2}}, []int{1}, []int{1, 2, 5}, []int{1, 2, 5}, 2, map[int][]int{1: nil, 2: {0}, 5: {0, 2}}},
		{[][]int{{5, 1}, {5, 2}, {2}}, []int{1}, []int{1, 2, 5}, []int{1, 2, 5}, 2, map[int][]int{1: nil, 2: {2}, 5: {2, 1}}},
		// What is both comes once, ahead of the other facts, and needs no rule.
		{[][]int{{2}, {5, 1}, {5, 2}}, []int{1, 2}, []int{1, 2, 5}, []int{1, 2, 5}, 2, map[int][]int{1: nil, 2: nil, 5: {2}}},
		// Among them the order of the rules counts, not that of the numbers.
		{[][]int{{3}, {2}, {5, 2}, {5, 3}}, nil, []int{2, 3}, []int{2, 3, 5}, 2, map[int][]int{3: {0}, 2: {1}, 5: {0, 3}}},
	}
	for _, c := range cases {
		c.hold(t)
	}
}

func TestEveryFewRules(t *testing.T) {
	byRules := map[int]int{}
	for count, sets := range [][][]int{{{0, 39}}, {{0, 1, 38, 39}}, {{0, 39}, {0, 5, 38, 39}}, {{0, 1, 39}}} {
		for _, numbers := range sets {
			everyRules(count, numbers, func(l []impl.Rule) {
				everySet(numbers, func(facts []int) {
					holdSetOfRules(t, l, facts)
					holdLeast(t, l, facts)
					for _, goal := range numbers {
						byRules[holdGoal(t, l, facts, goal)]++
					}
				})
			})
		}
	}
	for many := -1; many <= 3; many++ {
		if byRules[many] == 0 {
			t.Errorf("no goal was met that follows by %d rules", many)
		}
	}
}

// Promise 8 as it stands: of all sets that are models with all facts the least one lies in each.
func TestInEachModel(t *testing.T) {
	numbers := []int{0, 3, 17, 38, 39}
	models := 0
	for seed := range 400 {
		next := numbersFrom(uint64(40000 + seed))
		l := someRules(next(9), 3, len(numbers), next)
		for rule := range l {
			l[rule] = impl.Rule{Head: numbers[l[rule].Head], Body: atNumbers(l[rule].Body, numbers)}
		}
		everySet(numbers, func(facts []int) {
			common := numbers
			met := false
			everySet(numbers, func(set []int) {
				is, ok := impl.IsModel(l, set)
				if !ok || is != isModelByWords(l, set) {
					t.Fatalf("IsModel %v, %v: %v, %v", l, set, is, ok)
				}
				if is && allIn(facts, set) {
					models++
					met = true
					common = slices.DeleteFunc(slices.Clone(common), func(n int) bool { return !slices.Contains(set, n) })
				}
			})
			// The whole is a model, so one at least is met.
			if least := holdLeast(t, l, facts); !met || !slices.Equal(least, common) {
				t.Fatalf("LeastModel %v, %v: %v, but in each model is %v", l, facts, least, common)
			}
		})
	}
	if models < 10000 {
		t.Error(models)
	}
}

func TestManyRules(t *testing.T) {
	longest, none := 0, 0
	for seed := range 400 {
		next := numbersFrom(uint64(41000 + seed))
		count := next(impl.MaxRules + 1)
		if seed%4 == 0 {
			count = impl.MaxRules
		}
		size := []int{3, 8, 20, 40}[next(4)]
		l := someRules(count, 1+next(5), size, next)
		if seed%2 == 0 {
			size = 40
			l = someChain(count, next)
		}
		facts := someSet(1+next(6), size, next)
		holdRules(t, l, facts)
		least, _, _ := impl.LeastModel(l, facts)
		for goal := range size {
			many := holdGoal(t, l, facts, goal)
			longest = max(longest, many)
			if many < 0 {
				none++
			}
		}
		// A greater set, closed, is a model with all facts, in which the least one lies.
		more := slices.Concat(facts, someSet(5, 40, next))
		slices.Sort(more)
		if all, ok := impl.Closure(l, slices.Compact(more)); !ok || !allIn(least, all) {
			t.Fatalf("%v, %v: %v is not in %v", l, facts, least, all)
		}
		if is, ok := impl.IsModel(l, closureByWords(l, slices.Compact(more))); !is || !ok {
			t.Fatalf("%v, %v: a closed set is no model", l, more)
		}
	}
	if longest < 8 || none < 1000 {
		t.Error(longest, none)
	}
}

// chainOf leads from 0 to 39; the rules stand last to first.
func chainOf() []impl.Rule {
	l := make([]impl.Rule, 39)
	for i := range l {
		l[i] = impl.Rule{Head: 39 - i, Body: []int{38 - i}}
	}
	return l
}

func TestLongestRow(t *testing.T) {
	l := chainOf()
	holdRules(t, l, nil)
	holdRules(t, l, []int{0})
	holdRules(t, l, []int{0, 39})
	row := numbersBelow(39)
	slices.Reverse(row)
	if why, ok := impl.WhyOf(l, []int{0}, 39); !ok || !slices.Equal(why, row) {
		t.Error(why, ok)
	}
	if why, ok := impl.WhyOf(l, []int{0, 20}, 39); !ok || !slices.Equal(why, row[20:]) {
		t.Error(why, ok)
	}
	if least, work, ok := impl.LeastModel(l, []int{0}); !ok || work != 39 || !slices.Equal(least, numbersBelow(40)) {
		t.Error(least, work, ok)
	}
	// Closed to a ring, it leads all round from anywhere.
	ring := append(slices.Clone(l), impl.Rule{Head: 0, Body: []int{39}})
	for n := range impl.MaxFacts {
		if least, work, ok := impl.LeastModel(ring, []int{n}); !ok || work != 40 || !slices.Equal(least, numbersBelow(40)) {
			t.Error(n, least, work, ok)
		}
		if why, ok := impl.WhyOf(ring, []int{n}, (n+39)%40); !ok || len(why) != 39 {
			t.Error(n, why, ok)
		}
	}
	if least, work, ok := impl.LeastModel(ring, nil); !ok || work != 0 || len(least) != 0 {
		t.Error(least, work, ok)
	}
	// With an empty Body in the place of the fact the whole row is rules.
	free := append(slices.Clone(l), impl.Rule{Head: 0})
	if why, ok := impl.WhyOf(free, nil, 39); !ok || !slices.Equal(why, append([]int{39}, row...)) {
		t.Error(why, ok)
	}
	holdRules(t, free, nil)
}

func TestMostRules(t *testing.T) {
	all := numbersBelow(40)
	greatest := make([]impl.Rule, impl.MaxRules)
	for i := range greatest {
		greatest[i] = impl.Rule{Head: i % 40, Body: all}
	}
	holdRules(t, greatest, all)
	if least, work, ok := impl.LeastModel(greatest, all); !ok || work != 2400 || !slices.Equal(least, all) {
		t.Error(least, work, ok)
	}
	for n := range impl.MaxFacts {
		less := slices.Delete(slices.Clone(all), n, n+1)
		holdLeast(t, greatest, less)
		if least, work, ok := impl.LeastModel(greatest, less); !ok || work != 60*39 || !slices.Equal(least, less) {
			t.Error(least, work, ok)
		}
		if is, ok := impl.IsModel(greatest, less); !is || !ok {
			t.Error(less, is, ok)
		}
		if why, ok := impl.WhyOf(greatest, less, n); len(why) != 0 || ok {
			t.Error(n, why, ok)
		}
	}
	// All facts of nothing.
	free := make([]impl.Rule, impl.MaxRules)
	for i := range free {
		free[i].Head = 39 - i%40
	}
	holdRules(t, free, nil)
	holdRules(t, free, all)
	for n := range impl.MaxFacts {
		if why, ok := impl.WhyOf(free, nil, n); !ok || !slices.Equal(why, []int{39 - n}) {
			t.Error(n, why, ok)
		}
		if why, ok := impl.WhyOf(free, all, n); !ok || len(why) != 0 {
			t.Error(n, why, ok)
		}
	}
	// The last rule is one as well.
	last := append(slices.Repeat([]impl.Rule{{Head: 1, Body: []int{2}}}, 59), impl.Rule{Head: 3, Body: []int{0}})
	if why, ok := impl.WhyOf(last, []int{0}, 3); !ok || !slices.Equal(why, []int{59}) {
		t.Error(why, ok)
	}
	for _, l := range [][]impl.Rule{greatest, free, last} {
		holdBadRules(t, append(slices.Clone(l), impl.Rule{}))
		holdBadRules(t, append(slices.Clone(l), l[0]))
	}
}

func TestHowManyRules(t *testing.T) {
	for _, count := range []int{0, 1, 2, 39, 40, 41, 59, 60, 61, 62, 100, 1000} {
		for _, r := range []impl.Rule{{}, {Head: 39}, {Head: 2, Body: []int{0, 39}}} {
			l := slices.Repeat([]impl.Rule{r}, count)
			if count <= 60 {
				holdRules(t, l, []int{0, 39})
				continue
			}
			holdBadRules(t, l)
		}
	}
}

// badRules have something that is not as said at their beginning, in their midst or at their end.
func badRules() [][]impl.Rule {
	good := []impl.Rule{{Head: 3, Body: []int{1, 2}}, {Head: 2, Body: []int{1}}, {Head: 1}}
	var bad [][]impl.Rule
	with := func(r impl.Rule) {
		bad = append(bad, []impl.Rule{r})
		for i := range good {
			l := slices.Clone(good)
			l[i] = r
			bad = append(bad, l)
		}
	}
	for _, n := range noFacts {
		with(impl.Rule{Head: n})
		with(impl.Rule{Head: n, Body: []int{0, 39}})
		for _, body := range [][]int{{n}, {0, n}, {n, 39}, {0, n, 39}, {n, n}} {
			with(impl.Rule{Head: 1, Body: body})
		}
	}
	for _, body := range [][]int{{1, 0}, {0, 0}, {39, 39}, {39, 0}, {0, 1, 1}, {0, 0, 1}, {0, 2, 1}, {1, 0, 2}, make([]int, 41), append(numbersBelow(40), 39), numbersBelow(41), make([]int, 1000)} {
		with(impl.Rule{Head: 1, Body: body})
	}
	return append(bad, slices.Repeat(good, 21), make([]impl.Rule, 61), make([]impl.Rule, 1000), slices.Repeat([]impl.Rule{{Head: -1}}, 61))
}

func TestBadRules(t *testing.T) {
	for _, l := range badRules() {
		holdBadRules(t, l)
	}
}

func TestListsThatAreSets(t *testing.T) {
	values := []int{math.MinInt, -1, 0, 1, 38, 39, 40, math.MaxInt}
	rules := []impl.Rule{{Head: 38, Body: []int{0}}, {Head: 1}}
	good := 0
	for length := range 5 {
		everyCut(slices.Repeat([]int{len(values) - 1}, length), func(cut []int) {
			l := atNumbers(cut, values)
			is := goodSetByWords(l)
			if got := impl.GoodRules([]impl.Rule{{Head: 5, Body: l}}); got != is {
				t.Fatalf("GoodRules with the Body %v: %v", l, got)
			}
			if !is {
				holdRulesRefused(t, rules, l)
				holdRulesRefused(t, nil, l)
				return
			}
			good++
			holdRules(t, rules, l)
			holdRules(t, []impl.Rule{{Head: 5, Body: l}}, l)
		})
	}
	if good != 16 {
		t.Error(good)
	}
	for _, l := range [][]int{numbersBelow(41), append(numbersBelow(40), 39), make([]int, 40), make([]int, 1000)} {
		holdRulesRefused(t, rules, l)
	}
}

func TestGoodRules(t *testing.T) {
	for head := -3; head <= 43; head++ {
		want := head >= 0 && head <= 39
		if got := impl.GoodRules([]impl.Rule{{Head: head}}); got != want {
			t.Error(head, got)
		}
		if got := impl.GoodRules([]impl.Rule{{Body: []int{head}}}); got != want {
			t.Error(head, got)
		}
	}
	for _, l := range [][]impl.Rule{nil, {}, {{}}, {{Head: 39, Body: numbersBelow(40)}}, {{Head: 0, Body: []int{0}}}} {
		if !impl.GoodRules(l) {
			t.Error(l)
		}
	}
	// One number changed, and good or not by the words.
	good, bad := 0, 0
	for seed := range 2000 {
		next := numbersFrom(uint64(42000 + seed))
		l := someRules(1+next(6), 4, 40, next)
		r := &l[next(len(l))]
		off := append([]int{0, 1, 20, 39}, noFacts...)[next(4+len(noFacts))]
		if len(r.Body) > 0 && next(3) > 0 {
			r.Body[next(len(r.Body))] = off
		} else {
			r.Head = off
		}
		if impl.GoodRules(l) != goodRulesByWords(l) {
			t.Fatalf("GoodRules %v: %v", l, impl.GoodRules(l))
		}
		if goodRulesByWords(l) {
			good++
			holdRules(t, l, []int{0, 39})
		} else {
			bad++
			holdRulesRefused(t, l, []int{0, 39})
		}
	}
	if good < 100 || bad < 100 {
		t.Error(good, bad)
	}
}

func TestGoalsThatAreNone(t *testing.T) {
	for _, l := range [][]impl.Rule{nil, {{Head: 39, Body: []int{0}}}, {{Head: 0}, {Head: 39}}, chainOf()} {
		for _, facts := range [][]int{nil, {0}, {0, 39}, numbersBelow(40)} {
			for _, goal := range noFacts {
				holdGoalRefused(t, l, facts, goal)
			}
			holdGoal(t, l, facts, 0)
			holdGoal(t, l, facts, 39)
		}
	}
}

func TestAllFactsAndNone(t *testing.T) {
	all := numbersBelow(40)
	for seed := range 60 {
		next := numbersFrom(uint64(43000 + seed))
		l := someRules(next(61), 5, 40, next)
		holdRules(t, l, nil)
		holdRules(t, l, all)
		if least, work, ok := impl.LeastModel(l, all); !ok || work != bodiesOf(l) || !slices.Equal(least, all) {
			t.Error(least, work, ok)
		}
		if is, ok := impl.IsModel(l, all); !is || !ok {
			t.Error(is, ok)
		}
	}
}

// Many who ask at once get what one gets.
func TestRulesAskedForAtOnce(t *testing.T) {
	var group sync.WaitGroup
	chain := chainOf()
	for asker := range 8 {
		group.Go(func() {
			for i := range 40 {
				n := (asker + i) % 39
				least, work, ok := impl.LeastModel(chain, []int{n})
				if !ok || work != 39-n || len(least) != 40-n {
					t.Errorf("from %d on: %v, %d, %v", n, least, work, ok)
				}
				if why, ok := impl.WhyOf(chain, []int{n}, 39); !ok || len(why) != 39-n {
					t.Errorf("from %d on: %v, %v", n, why, ok)
				}
			}
		})
	}
	group.Wait()
}
