package tests

import (
	"slices"

	"loop.example/g00269/impl"
)

// What the document's words say of nets, gone over as they stand: lists in place of maps, and nothing that is known twice.

func tokenAlone(places int, place int) []int {
	m := make([]int, places)
	m[place] = 1
	return m
}

func endOf(n impl.Net) []int {
	return tokenAlone(n.Places, n.Places-1)
}

func fireByWords(n impl.Net, m []int, step int) ([]int, bool) {
	after := slices.Clone(m)
	for _, p := range n.Steps[step].In {
		if m[p] < 1 {
			return nil, false
		}
		after[p]--
	}
	for _, p := range n.Steps[step].Out {
		after[p]++
	}
	return after, slices.Max(after) <= impl.MaxTokens
}

func numberOf(marks [][]int, m []int) int {
	return slices.IndexFunc(marks, func(other []int) bool { return slices.Equal(other, m) })
}

func marksByWords(n impl.Net, m []int) ([][]int, bool) {
	marks := [][]int{m}
	for i := 0; i < len(marks); i++ {
		for step := range n.Steps {
			after, fires := fireByWords(n, marks[i], step)
			if fires && numberOf(marks, after) < 0 {
				marks = append(marks, after)
			}
		}
		if len(marks) > impl.MaxMarks {
			return nil, false
		}
	}
	return marks, true
}

// nextByWords tells of each marking to which one each step leads, -1 where it cannot fire.
func nextByWords(n impl.Net, marks [][]int) [][]int {
	next := make([][]int, len(marks))
	for i, m := range marks {
		for step := range n.Steps {
			to := -1
			if after, fires := fireByWords(n, m, step); fires {
				to = numberOf(marks, after)
			}
			next[i] = append(next[i], to)
		}
	}
	return next
}

// farFromEnd tells of each marking how many steps lead to the end at the least, -1 where none do.
func farFromEnd(next [][]int, end int) []int {
	far := make([]int, len(next))
	for i := range far {
		far[i] = -1
	}
	if end < 0 {
		return far
	}
	far[end] = 0
	for grown := true; grown; {
		grown = false
		for i, steps := range next {
			for _, to := range steps {
				if to >= 0 && far[to] >= 0 && (far[i] < 0 || far[to]+1 < far[i]) {
					far[i] = far[to] + 1
					grown = true
				}
			}
		}
	}
	return far
}

// finishByWords takes at each marking the least step that leads nearer to the end.
func finishByWords(n impl.Net, m []int) ([]int, bool) {
	marks, ok := marksByWords(n, m)
	if !ok {
		return nil, false
	}
	next := nextByWords(n, marks)
	far := farFromEnd(next, numberOf(marks, endOf(n)))
	if far[0] < 0 {
		return nil, false
	}
	var steps []int
	for now := 0; far[now] > 0; now = next[now][steps[len(steps)-1]] {
		steps = append(steps, slices.IndexFunc(next[now], func(to int) bool { return to >= 0 && far[to] == far[now]-1 }))
	}
	return steps, true
}

func soundByWords(n impl.Net) (bool, bool) {
	if n.Places < 2 {
		return false, false
	}
	marks, ok := marksByWords(n, tokenAlone(n.Places, 0))
	if !ok {
		return false, false
	}
	next := nextByWords(n, marks)
	end := numberOf(marks, endOf(n))
	if slices.Contains(farFromEnd(next, end), -1) {
		return false, true
	}
	for i, m := range marks {
		if m[n.Places-1] > 0 && i != end {
			return false, true
		}
	}
	for step := range n.Steps {
		if !slices.ContainsFunc(next, func(steps []int) bool { return steps[step] >= 0 }) {
			return false, true
		}
	}
	return true, true
}

func invariantByWords(n impl.Net, weights []int) bool {
	for _, s := range n.Steps {
		took, put := 0, 0
		for p, weight := range weights {
			if slices.Contains(s.In, p) {
				took += weight
			}
			if slices.Contains(s.Out, p) {
				put += weight
			}
		}
		if took != put {
			return false
		}
	}
	return true
}

func weightByWords(m []int, weights []int) int {
	sum := 0
	for p, tokens := range m {
		for range tokens {
			sum += weights[p]
		}
	}
	return sum
}

func countByWords(n impl.Net, m []int, counts []int) []int {
	sums := slices.Clone(m)
	for p := range sums {
		for step, s := range n.Steps {
			if slices.Contains(s.In, p) {
				sums[p] -= counts[step]
			}
			if slices.Contains(s.Out, p) {
				sums[p] += counts[step]
			}
		}
	}
	return sums
}

// placesIn tells the places whose bits are 1.
func placesIn(bits int, places int) []int {
	var l []int
	for p := range places {
		if bits>>p&1 == 1 {
			l = append(l, p)
		}
	}
	return l
}

// everyNet hands each net of so many places and steps to use.
func everyNet(places int, steps int, use func(n impl.Net)) {
	kinds := make([]int, steps)
	for i := range kinds {
		kinds[i] = 1<<(2*places) - 1
	}
	everyCut(kinds, func(kinds []int) {
		n := impl.Net{Places: places}
		for _, bits := range kinds {
			n.Steps = append(n.Steps, impl.Step{In: placesIn(bits, places), Out: placesIn(bits>>places, places)})
		}
		use(n)
	})
}

// fewPlaces tells up to two places, now and then none.
func fewPlaces(places int, next func(below int) int) []int {
	bits := 0
	for range []int{0, 1, 1, 1, 2, 2}[next(6)] {
		bits |= 1 << next(places)
	}
	return placesIn(bits, places)
}

func someNet(places int, steps int, next func(below int) int) impl.Net {
	n := impl.Net{Places: places}
	for range steps {
		n.Steps = append(n.Steps, impl.Step{In: fewPlaces(places, next), Out: fewPlaces(places, next)})
	}
	return n
}

func someMarking(places int, most int, next func(below int) int) []int {
	m := make([]int, places)
	for p := range m {
		m[p] = next(most + 1)
	}
	return m
}

func someSteps(n impl.Net, count int, next func(below int) int) []int {
	l := make([]int, count)
	for i := range l {
		l[i] = next(len(n.Steps))
	}
	return l
}

// beside tells a rising list with p in it too, where other is.
func beside(l []int, other int, p int) []int {
	if slices.Contains(l, other) {
		l = append(slices.Clone(l), p)
		slices.Sort(l)
	}
	return l
}

// someSound makes a net that is sound, out of one step from the first place to the last, by changes that keep it so.
func someSound(places int, next func(below int) int) impl.Net {
	n := impl.Net{Places: places, Steps: []impl.Step{{In: []int{0}, Out: []int{places - 1}}}}
	for inner := 1; inner < places-1; inner++ {
		at := next(len(n.Steps))
		if other := next(inner); other > 0 {
			// A place beside another inner one, filled and emptied with it.
			for i, s := range n.Steps {
				n.Steps[i] = impl.Step{In: beside(s.In, other, inner), Out: beside(s.Out, other, inner)}
			}
		} else if len(n.Steps) < impl.MaxSteps {
			// A place in the middle of a step, which becomes two.
			n.Steps = append(n.Steps, impl.Step{In: []int{inner}, Out: n.Steps[at].Out})
			n.Steps[at].Out = []int{inner}
		}
		if next(3) == 0 && len(n.Steps) < impl.MaxSteps {
			// The same step once more.
			n.Steps = append(n.Steps, n.Steps[next(len(n.Steps))])
		}
		if next(3) == 0 && len(n.Steps) < impl.MaxSteps {
			// A step that puts back what it takes.
			s := n.Steps[next(len(n.Steps))]
			n.Steps = append(n.Steps, impl.Step{In: s.In, Out: s.In})
		}
	}
	return n
}
