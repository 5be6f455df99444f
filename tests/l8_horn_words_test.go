package tests

import (
	"slices"

	"loop.example/g00269/impl"
)

// What the document's words say of rules, with sets as plain lists that are looked through anew each time.

func allIn(l []int, set []int) bool {
	for _, n := range l {
		if !slices.Contains(set, n) {
			return false
		}
	}
	return true
}

// goodSetByWords tells whether a list is rising and has facts alone.
func goodSetByWords(l []int) bool {
	for i, n := range l {
		if n < 0 || n > 39 || i > 0 && l[i-1] >= n {
			return false
		}
	}
	return true
}

func goodRulesByWords(l []impl.Rule) bool {
	for _, r := range l {
		if !goodSetByWords([]int{r.Head}) || !goodSetByWords(r.Body) {
			return false
		}
	}
	return len(l) <= 60
}

func isModelByWords(l []impl.Rule, m []int) bool {
	for _, r := range l {
		if allIn(r.Body, m) && !slices.Contains(m, r.Head) {
			return false
		}
	}
	return true
}

func stepByRules(l []impl.Rule, m []int) []int {
	next := slices.Clone(m)
	for _, r := range l {
		if allIn(r.Body, m) {
			next = append(next, r.Head)
		}
	}
	slices.Sort(next)
	return slices.Compact(next)
}

func closureByWords(l []impl.Rule, facts []int) []int {
	for {
		next := stepByRules(l, facts)
		if slices.Equal(next, facts) {
			return next
		}
		facts = next
	}
}

// leastByWords tells the set in the order of its coming, how often a count was made less, and the rules that let something come first.
func leastByWords(l []impl.Rule, facts []int) ([]int, int, []int) {
	var came, first []int
	work := 0
	letCome := func(rule int) {
		if !slices.Contains(came, l[rule].Head) {
			came = append(came, l[rule].Head)
			first = append(first, rule)
		}
	}
	for rule, r := range l {
		if len(r.Body) == 0 {
			letCome(rule)
		}
	}
	for _, n := range facts {
		if !slices.Contains(came, n) {
			came = append(came, n)
		}
	}
	for i := 0; i < len(came); i++ {
		for rule, r := range l {
			if !slices.Contains(r.Body, came[i]) {
				continue
			}
			work++
			if allIn(r.Body, came[:i+1]) {
				letCome(rule)
			}
		}
	}
	return came, work, first
}

// isWhy tells whether a goal follows by a row of rules, one behind the other.
func isWhy(l []impl.Rule, facts []int, goal int, row []int) bool {
	if len(row) == 0 {
		return slices.Contains(facts, goal)
	}
	there := slices.Clone(facts)
	for _, rule := range row {
		if !allIn(l[rule].Body, there) {
			return false
		}
		there = append(there, l[rule].Head)
	}
	return l[row[len(row)-1]].Head == goal
}

// whyByWords leaves rules out as long as one may be left out.
func whyByWords(l []impl.Rule, facts []int, goal int) ([]int, bool) {
	if slices.Contains(facts, goal) {
		return nil, true
	}
	_, _, row := leastByWords(l, facts)
	at := slices.IndexFunc(row, func(rule int) bool { return l[rule].Head == goal })
	if at < 0 {
		return nil, false
	}
	row = row[:at+1]
	for i := 0; i < len(row); i++ {
		if less := slices.Delete(slices.Clone(row), i, i+1); isWhy(l, facts, goal, less) {
			row, i = less, -1
		}
	}
	return row, true
}

// bodiesOf tells how much all bodies have together.
func bodiesOf(l []impl.Rule) int {
	many := 0
	for _, r := range l {
		many += len(r.Body)
	}
	return many
}

// atNumbers tells the numbers at some places of a list.
func atNumbers(places []int, numbers []int) []int {
	var l []int
	for _, p := range places {
		l = append(l, numbers[p])
	}
	return l
}

// everySet hands each set of some rising numbers to use.
func everySet(numbers []int, use func(set []int)) {
	for bits := range 1 << len(numbers) {
		use(atNumbers(placesIn(bits, len(numbers)), numbers))
	}
}

// everyRules hands each list of so many rules of some rising numbers to use.
func everyRules(count int, numbers []int, use func(l []impl.Rule)) {
	size := len(numbers)
	var kinds []int
	for range count {
		kinds = append(kinds, size-1, 1<<size-1)
	}
	everyCut(kinds, func(kinds []int) {
		l := make([]impl.Rule, count)
		for rule := range l {
			l[rule] = impl.Rule{Head: numbers[kinds[2*rule]], Body: atNumbers(placesIn(kinds[2*rule+1], size), numbers)}
		}
		use(l)
	})
}

// someSet draws a rising list of at most so many of the facts below a size.
func someSet(most int, size int, next func(below int) int) []int {
	l := someOrder(size, next)[:next(min(most, size)+1)]
	slices.Sort(l)
	return l
}

// someRules draws rules of the facts below a size, with bodies of at most so many.
func someRules(count int, most int, size int, next func(below int) int) []impl.Rule {
	l := make([]impl.Rule, count)
	for rule := range l {
		l[rule] = impl.Rule{Head: next(size), Body: someSet(most, size, next)}
		// Few rules are without a Body, so that not all comes of nothing.
		if len(l[rule].Body) == 0 && next(4) > 0 {
			l[rule].Body = []int{next(size)}
		}
	}
	return l
}

// someChain draws rules that lead from fact to fact in some order, and some that lead nowhere new or back.
func someChain(count int, next func(below int) int) []impl.Rule {
	order := someOrder(impl.MaxFacts, next)
	l := make([]impl.Rule, count)
	for rule := range l {
		at := 1 + next(impl.MaxFacts-1)
		body := []int{order[at-1]}
		if other := order[next(at)]; next(2) == 0 && other != body[0] {
			body = append(body, other)
		}
		slices.Sort(body)
		l[rule] = impl.Rule{Head: order[at], Body: body}
	}
	return l
}
