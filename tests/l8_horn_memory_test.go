package tests

import (
	"slices"
	"testing"

	"loop.example/g00269/impl"
)

// rulesBehind lays wrong things behind each list of rules.
func rulesBehind(l []impl.Rule) []impl.Rule {
	var laid []impl.Rule
	for _, r := range l {
		laid = append(laid, impl.Rule{Head: r.Head, Body: behind(r.Body)})
	}
	wrong := impl.Rule{Head: -7, Body: []int{99}}
	return append(laid, wrong, wrong)[:len(l)]
}

// wholeRules copies all that lies in the memory of rules, up to each capacity.
func wholeRules(l []impl.Rule) [][]int {
	var all [][]int
	for _, r := range l[:cap(l)] {
		all = append(all, []int{r.Head}, slices.Clone(r.Body[:cap(r.Body)]))
	}
	return all
}

// ruleAnswers asks all functions of chapter 8 and tells each list that they answer; the first one is of what else they tell.
func ruleAnswers(l []impl.Rule, facts []int, goals []int) [][]int {
	least, work, _ := impl.LeastModel(l, facts)
	next, _ := impl.StepOnce(l, facts)
	closed, _ := impl.Closure(l, facts)
	told := []int{work}
	tell := func(is bool, ok bool) {
		told = append(told, map[bool]int{true: 1}[is], map[bool]int{true: 1}[ok])
	}
	tell(impl.GoodRules(l), true)
	tell(impl.IsModel(l, facts))
	lists := [][]int{least, next, closed}
	for _, goal := range goals {
		tell(impl.Follows(l, facts, goal))
		why, _ := impl.WhyOf(l, facts, goal)
		lists = append(lists, why)
	}
	return append([][]int{told}, lists...)
}

// holdRuleMemory holds that no argument is changed, nothing behind one is read, and no answer shares memory with it or another list.
func holdRuleMemory(t *testing.T, l []impl.Rule, facts []int) {
	t.Helper()
	goals := []int{-1, 0, 1, 2, 3, 7, 20, 38, 39, 40}
	want := ruleAnswers(l, facts, goals)
	laid, laidFacts := rulesBehind(l), behind(facts)
	kept, keptFacts := wholeRules(laid), slices.Clone(laidFacts[:cap(laidFacts)])
	for range 2 {
		got := ruleAnswers(laid, laidFacts, goals)
		if !sameLists(got, want) {
			t.Fatalf("%v, %v: what lies behind a list is read, or an answer was kept: %v, not %v", l, facts, got, want)
		}
		for i := range got {
			for _, n := range got[i][len(got[i]):cap(got[i])] {
				if n != 0 {
					t.Fatalf("%v, %v: behind answer %d lies %d", l, facts, i, n)
				}
			}
			fillVec(got[i], -5)
			if i+1 < len(got) && !sameLists(got[i+1:], want[i+1:]) {
				t.Fatalf("%v, %v: list %d of the answers shares memory with another one", l, facts, i)
			}
		}
		if !sameLists(wholeRules(laid), kept) {
			t.Fatalf("the rules %v, or what lies behind them, are written into", l)
		}
		if !slices.Equal(laidFacts[:cap(laidFacts)], keptFacts) {
			t.Fatalf("the facts %v, or what lies behind them, are written into", facts)
		}
	}
}

func TestRulesAreLeftAlone(t *testing.T) {
	for seed := range 150 {
		next := numbersFrom(uint64(44000 + seed))
		l := someRules(next(impl.MaxRules+1), 1+next(4), []int{4, 10, 40}[next(3)], next)
		holdRuleMemory(t, l, someSet(5, 40, next))
		holdRuleMemory(t, l, nil)
		holdRuleMemory(t, l, numbersBelow(40))
		chain := someChain(next(impl.MaxRules+1), next)
		holdRuleMemory(t, chain, someSet(8, 40, next))
	}
	holdRuleMemory(t, nil, nil)
	holdRuleMemory(t, nil, []int{0, 39})
	holdRuleMemory(t, chainOf(), []int{0})
}

func TestBadRulesAreLeftAlone(t *testing.T) {
	for _, l := range badRules() {
		holdRuleMemory(t, l, []int{0, 1})
	}
	for _, facts := range [][]int{{1, 0}, {0, 0}, {-1}, {40}, {0, 40}, {39, 38}} {
		holdRuleMemory(t, chainOf(), facts)
	}
}

func TestRulesBehindTheList(t *testing.T) {
	all := []impl.Rule{{Head: 1, Body: []int{0}}, {Head: 2, Body: []int{1}}, {Head: 3}, {Head: -1}}
	for length, want := range [][]int{{0}, {0, 1}, {0, 1, 2}, {0, 1, 2, 3}, nil} {
		if least, _, ok := impl.LeastModel(all[:length], []int{0}); ok != (length < 4) || !slices.Equal(least, want) {
			t.Error(length, least, ok)
		}
		if impl.GoodRules(all[:length]) != (length < 4) {
			t.Error(length)
		}
	}
	// What lies behind a Body is not in it.
	body := []int{0, 1, -1}
	for length, want := range [][]int{{5}, {0, 5}, {0, 1, 5}, nil} {
		l := []impl.Rule{{Head: 5, Body: body[:length]}}
		if least, _, ok := impl.LeastModel(l, body[:min(length, 2)]); ok != (length < 3) || !slices.Equal(least, want) {
			t.Error(length, least, ok)
		}
	}
}

// Bodies and facts may lie in one memory; nothing is to be seen of it.
func TestListsInOneMemory(t *testing.T) {
	memory := numbersBelow(40)
	kept := slices.Clone(memory)
	l := []impl.Rule{{Head: 39, Body: memory[:2]}, {Head: 38, Body: memory[:1]}, {Head: 2, Body: memory[1:2]}, {Head: 39, Body: memory[38:39]}}
	apart := make([]impl.Rule, len(l))
	for i, r := range l {
		apart[i] = impl.Rule{Head: r.Head, Body: slices.Clone(r.Body)}
	}
	for from := range 4 {
		for to := from; to <= 4; to++ {
			facts := memory[from:to]
			holdRules(t, l, facts)
			goals := numbersBelow(40)
			if !sameLists(ruleAnswers(l, facts, goals), ruleAnswers(apart, slices.Clone(facts), goals)) {
				t.Errorf("%v is answered otherwise where it lies in the memory of a Body", facts)
			}
			for _, answer := range ruleAnswers(l, facts, goals) {
				fillVec(answer, -5)
			}
			if !slices.Equal(memory, kept) {
				t.Fatal("an answer lies in the memory of an argument")
			}
		}
	}
}
