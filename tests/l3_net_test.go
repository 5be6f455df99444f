package tests

import (
	"math"
	"slices"
	"testing"

	"loop.example/g00269/impl"
)

func sameLists(a [][]int, b [][]int) bool {
	return slices.EqualFunc(a, b, slices.Equal[[]int])
}

// holdFiring holds what CanFire, FireStep and PlayNet tell of a marking against the document's words.
func holdFiring(t *testing.T, n impl.Net, m []int) {
	t.Helper()
	for step := range n.Steps {
		want, fires := fireByWords(n, m, step)
		if can, ok := impl.CanFire(n, m, step); !ok || can != fires {
			t.Fatalf("CanFire %v, %v, %d: %v, %v", n, m, step, can, ok)
		}
		got, ok := impl.FireStep(n, m, step)
		if ok != fires || ok && !slices.Equal(got, want) || !ok && len(got) != 0 {
			t.Fatalf("FireStep %v, %v, %d: %v, %v", n, m, step, got, ok)
		}
	}
}

func holdPlay(t *testing.T, n impl.Net, m []int, l []int) {
	t.Helper()
	now, fired := m, 0
	counts := make([]int, len(n.Steps))
	for _, step := range l {
		if next, fires := fireByWords(n, now, step); fires {
			now = next
			counts[step]++
			fired++
		}
	}
	got, many, ok := impl.PlayNet(n, m, l)
	if !ok || many != fired || !slices.Equal(got, now) {
		t.Fatalf("PlayNet %v, %v, %v: %v, %d, %v", n, m, l, got, many, ok)
	}
	// The promise: what is come to is what the state equation tells, as far as that counts.
	sums, ok := impl.CountSteps(n, m, counts)
	counted := len(counts) == 0 || slices.Max(counts) <= 100
	if ok != counted || ok && !slices.Equal(sums, now) || !ok && len(sums) != 0 {
		t.Fatalf("CountSteps %v, %v, %v: %v, %v", n, m, counts, sums, ok)
	}
}

func holdMarks(t *testing.T, n impl.Net, m []int) {
	t.Helper()
	want, few := marksByWords(n, m)
	got, ok := impl.MarksFrom(n, m)
	if ok != few || !sameLists(got, want) {
		t.Fatalf("MarksFrom %v, %v: %v, %v", n, m, got, ok)
	}
	wantSteps, there := finishByWords(n, m)
	steps, ok := impl.FinishFrom(n, m)
	if ok != there || !slices.Equal(steps, wantSteps) {
		t.Fatalf("FinishFrom %v, %v: %v, %v", n, m, steps, ok)
	}
}

func holdSound(t *testing.T, n impl.Net) bool {
	t.Helper()
	wantSound, few := soundByWords(n)
	sound, ok := impl.IsSound(n)
	if ok != few || sound != wantSound {
		t.Fatalf("IsSound %v: %v, %v", n, sound, ok)
	}
	return sound
}

// holdInvariant holds the promise too: what is an invariant weighs the same in all of marks.
func holdInvariant(t *testing.T, n impl.Net, weights []int, marks [][]int) {
	t.Helper()
	invariant, ok := impl.IsInvariant(n, weights)
	if !ok || invariant != invariantByWords(n, weights) {
		t.Fatalf("IsInvariant %v, %v: %v, %v", n, weights, invariant, ok)
	}
	for i, m := range marks {
		weight, ok := impl.WeightOf(m, weights)
		if !ok || weight != weightByWords(m, weights) {
			t.Fatalf("WeightOf %v, %v: %d, %v", m, weights, weight, ok)
		}
		if first, _ := impl.WeightOf(marks[0], weights); invariant && weight != first {
			t.Fatalf("marking %d of %v, %v weighs %d, the first one %d", i, n, marks, weight, first)
		}
	}
}

// playFrom fires steps at random in a sound net and holds that it can be brought to its end.
func playFrom(t *testing.T, n impl.Net, l []int) {
	t.Helper()
	m, _, ok := impl.PlayNet(n, tokenAlone(n.Places, 0), l)
	if !ok {
		t.Fatalf("PlayNet %v, %v tells false", n, l)
	}
	steps, ok := impl.FinishFrom(n, m)
	if !ok {
		t.Fatalf("FinishFrom %v, %v tells false in a sound net", n, m)
	}
	end, fired, ok := impl.PlayNet(n, m, steps)
	if !ok || fired != len(steps) || !slices.Equal(end, endOf(n)) {
		t.Fatalf("%v leads %v, %v to %v", steps, n, m, end)
	}
}

func TestEverySmallNet(t *testing.T) {
	for _, size := range []struct{ places, most int }{{1, 3}, {2, 2}, {3, 1}} {
		for steps := range size.most + 1 {
			everyNet(size.places, steps, func(n impl.Net) {
				if !impl.GoodNet(n) {
					t.Fatalf("GoodNet refuses %v", n)
				}
				counts := make([]int, n.Places)
				tokens := []int{0, 1, 2, 8, 9}
				for p := range counts {
					counts[p] = len(tokens) - 1
				}
				everyCut(counts, func(places []int) {
					m := make([]int, n.Places)
					for p, i := range places {
						m[p] = tokens[i]
					}
					holdFiring(t, n, m)
				})
				for _, m := range [][]int{make([]int, n.Places), tokenAlone(n.Places, 0), endOf(n)} {
					holdMarks(t, n, m)
				}
			})
		}
	}
}

func TestEverySmallNetSound(t *testing.T) {
	sound := 0
	for _, size := range []struct{ places, most int }{{1, 2}, {2, 3}, {3, 2}} {
		for steps := range size.most + 1 {
			everyNet(size.places, steps, func(n impl.Net) {
				if holdSound(t, n) {
					sound++
					playFrom(t, n, someSteps(n, 9, numbersFrom(uint64(sound))))
				}
			})
		}
	}
	if sound == 0 {
		t.Error("no sound net was met")
	}
}

func TestSoundNets(t *testing.T) {
	for seed := range 400 {
		next := numbersFrom(uint64(seed))
		n := someSound(2+seed%(impl.MaxPlaces-1), next)
		if !holdSound(t, n) {
			t.Fatalf("%v is not sound", n)
		}
		holdMarks(t, n, tokenAlone(n.Places, 0))
		for _, count := range []int{0, 1, 3, 10, 200} {
			playFrom(t, n, someSteps(n, count, next))
		}
		// One step changed, which mostly is the end of its soundness.
		changed := impl.Net{Places: n.Places, Steps: slices.Clone(n.Steps)}
		changed.Steps[next(len(n.Steps))] = impl.Step{In: fewPlaces(n.Places, next), Out: fewPlaces(n.Places, next)}
		holdSound(t, changed)
	}
}

func TestManyNets(t *testing.T) {
	for seed := range 600 {
		next := numbersFrom(uint64(seed))
		places, steps := 1+next(impl.MaxPlaces), next(impl.MaxSteps+1)
		n := someNet(places, steps, next)
		if !impl.GoodNet(n) {
			t.Fatalf("GoodNet refuses %v", n)
		}
		for _, most := range []int{1, impl.MaxTokens} {
			m := someMarking(places, most, next)
			holdFiring(t, n, m)
			holdMarks(t, n, m)
			for _, count := range []int{0, 1, 10, 200} {
				if steps > 0 || count == 0 {
					holdPlay(t, n, m, someSteps(n, count, next))
				}
			}
		}
		holdSound(t, n)
	}
}

func TestInvariantsOfNets(t *testing.T) {
	met := 0
	for seed := range 200 {
		next := numbersFrom(uint64(seed))
		places := 1 + next(4)
		n := someNet(places, next(4), next)
		marks, _ := impl.MarksFrom(n, someMarking(places, 2, next))
		most := make([]int, places)
		for p := range most {
			most[p] = 4
		}
		everyCut(most, func(cut []int) {
			weights := make([]int, places)
			for p, w := range cut {
				weights[p] = w - 2
			}
			holdInvariant(t, n, weights, marks)
			if invariantByWords(n, weights) && slices.Max(cut) > 2 && len(marks) > 1 {
				met++
			}
		})
	}
	if met == 0 {
		t.Error("no invariant of a net that fires was met")
	}
}

func TestInvariantsAtTheirBounds(t *testing.T) {
	n := impl.Net{Places: 3, Steps: []impl.Step{{In: []int{0}, Out: []int{1}}, {In: []int{1, 2}}, {Out: []int{0, 2}}}}
	marks, _ := impl.MarksFrom(n, []int{1, 0, 1})
	for _, weights := range [][]int{{100, 100, -100}, {-100, -100, 100}, {0, 0, 0}} {
		if invariant, ok := impl.IsInvariant(n, weights); !invariant || !ok {
			t.Error(weights, invariant, ok)
		}
		holdInvariant(t, n, weights, marks)
	}
	for _, weights := range [][]int{{100, 99, -100}, {100, 100, 100}, {99, 99, -100}} {
		if invariant, ok := impl.IsInvariant(n, weights); invariant || !ok {
			t.Error(weights, invariant, ok)
		}
	}
	// Where nothing moves, all weights are as good.
	if invariant, ok := impl.IsInvariant(impl.Net{Places: 2}, []int{-100, 100}); !invariant || !ok {
		t.Error(invariant, ok)
	}
	full := slices.Repeat([]int{impl.MaxTokens}, impl.MaxPlaces)
	for _, c := range []struct{ weight, want int }{{100, 7200}, {-100, -7200}, {0, 0}} {
		weights := slices.Repeat([]int{c.weight}, impl.MaxPlaces)
		if w, ok := impl.WeightOf(full, weights); !ok || w != c.want {
			t.Error(c, w, ok)
		}
	}
	if w, ok := impl.WeightOf([]int{7}, []int{-3}); !ok || w != -21 {
		t.Error(w, ok)
	}
}

func TestStepsTakeFirst(t *testing.T) {
	n := impl.Net{Places: 2, Steps: []impl.Step{
		{In: []int{0}, Out: []int{0}}, {Out: []int{0}}, {In: []int{0}}, {}, {In: []int{0, 1}, Out: []int{0, 1}}, {In: []int{0}, Out: []int{1}},
	}}
	cases := []struct {
		m, want []int
		step    int
		fires   bool
	}{
		// A full place that gives its token back, and one with no token to give.
		{[]int{9, 0}, []int{9, 0}, 0, true}, {[]int{0, 9}, nil, 0, false},
		// One token too many, and just as many as there may be.
		{[]int{9, 0}, nil, 1, false}, {[]int{8, 0}, []int{9, 0}, 1, true}, {[]int{0, 9}, []int{1, 9}, 1, true},
		// The last token.
		{[]int{1, 0}, []int{0, 0}, 2, true}, {[]int{0, 0}, nil, 2, false},
		// Nothing taken and nothing put.
		{[]int{0, 0}, []int{0, 0}, 3, true}, {[]int{9, 9}, []int{9, 9}, 3, true},
		{[]int{9, 9}, []int{9, 9}, 4, true}, {[]int{9, 0}, nil, 4, false}, {[]int{0, 9}, nil, 4, false},
		{[]int{9, 8}, []int{8, 9}, 5, true}, {[]int{9, 9}, nil, 5, false},
	}
	for _, c := range cases {
		if can, ok := impl.CanFire(n, c.m, c.step); !ok || can != c.fires {
			t.Error(c, can, ok)
		}
		if got, ok := impl.FireStep(n, c.m, c.step); ok != c.fires || !slices.Equal(got, c.want) {
			t.Error(c, got, ok)
		}
	}
}

func TestPlayPassesOver(t *testing.T) {
	n := impl.Net{Places: 2, Steps: []impl.Step{{In: []int{0}, Out: []int{1}}, {In: []int{1}, Out: []int{0}}, {Out: []int{0}}}}
	if m, fired, ok := impl.PlayNet(n, []int{1, 0}, []int{1, 0, 0, 1, 0, 0}); !ok || fired != 3 || !slices.Equal(m, []int{0, 1}) {
		t.Error(m, fired, ok)
	}
	for _, l := range [][]int{nil, {}} {
		if m, fired, ok := impl.PlayNet(n, []int{3, 4}, l); !ok || fired != 0 || !slices.Equal(m, []int{3, 4}) {
			t.Error(m, fired, ok)
		}
	}
	if m, fired, ok := impl.PlayNet(n, []int{0, 0}, slices.Repeat([]int{2}, 200)); !ok || fired != 9 || !slices.Equal(m, []int{9, 0}) {
		t.Error(m, fired, ok)
	}
	if m, fired, ok := impl.PlayNet(n, []int{1, 0}, slices.Repeat([]int{0, 1}, 100)); !ok || fired != 200 || !slices.Equal(m, []int{1, 0}) {
		t.Error(m, fired, ok)
	}
	if m, fired, ok := impl.PlayNet(n, []int{1, 0}, append(slices.Repeat([]int{0, 1}, 100), 2)); len(m) != 0 || fired != 0 || ok {
		t.Error(m, fired, ok)
	}
	// A net with no steps has no numbers of steps, yet none may be played.
	if m, fired, ok := impl.PlayNet(impl.Net{Places: 1}, []int{9}, nil); !ok || fired != 0 || !slices.Equal(m, []int{9}) {
		t.Error(m, fired, ok)
	}
	if m, fired, ok := impl.PlayNet(impl.Net{Places: 1}, []int{9}, []int{0}); len(m) != 0 || fired != 0 || ok {
		t.Error(m, fired, ok)
	}
}

func TestCountedSteps(t *testing.T) {
	// No marking needs to come of it: numbers may be below 0 or above MaxTokens.
	n := impl.Net{Places: 3, Steps: []impl.Step{{In: []int{0}, Out: []int{1}}, {In: []int{1, 2}, Out: []int{2}}, {Out: []int{0, 1, 2}}}}
	cases := []struct{ m, counts, want []int }{
		{[]int{0, 0, 0}, []int{0, 0, 0}, []int{0, 0, 0}},
		{[]int{9, 9, 9}, []int{0, 0, 0}, []int{9, 9, 9}},
		{[]int{1, 2, 3}, []int{100, 0, 0}, []int{-99, 102, 3}},
		{[]int{1, 2, 3}, []int{0, 100, 0}, []int{1, -98, 3}},
		{[]int{1, 2, 3}, []int{0, 0, 100}, []int{101, 102, 103}},
		{[]int{1, 2, 3}, []int{1, 2, 3}, []int{3, 4, 6}},
	}
	for _, c := range cases {
		if got, ok := impl.CountSteps(n, c.m, c.counts); !ok || !slices.Equal(got, c.want) || !slices.Equal(countByWords(n, c.m, c.counts), c.want) {
			t.Error(c, got, ok)
		}
	}
	all := impl.Net{Places: 1, Steps: slices.Repeat([]impl.Step{{Out: []int{0}}}, impl.MaxSteps)}
	if got, ok := impl.CountSteps(all, []int{9}, slices.Repeat([]int{100}, impl.MaxSteps)); !ok || !slices.Equal(got, []int{1209}) {
		t.Error(got, ok)
	}
	for _, counts := range [][]int{nil, {}} {
		if got, ok := impl.CountSteps(impl.Net{Places: 2}, []int{3, 4}, counts); !ok || !slices.Equal(got, []int{3, 4}) {
			t.Error(got, ok)
		}
	}
	for seed := range 300 {
		next := numbersFrom(uint64(seed))
		n := someNet(1+next(impl.MaxPlaces), next(impl.MaxSteps+1), next)
		m, counts := someMarking(n.Places, impl.MaxTokens, next), someMarking(len(n.Steps), 100, next)
		if got, ok := impl.CountSteps(n, m, counts); !ok || !slices.Equal(got, countByWords(n, m, counts)) {
			t.Fatalf("CountSteps %v, %v, %v: %v, %v", n, m, counts, got, ok)
		}
	}
}

func TestNumbersThatHundredFiringsMake(t *testing.T) {
	n := impl.Net{Places: 1, Steps: []impl.Step{{In: []int{0}, Out: []int{0}}, {In: []int{0}}}}
	for _, times := range []int{99, 100, 101} {
		holdPlay(t, n, []int{2}, append(slices.Repeat([]int{0}, times), 1))
	}
}

// numberedNet goes to and fro between 100 markings at each of four places of its last token, which may wait ahead of them.
func numberedNet(wait bool) (impl.Net, []int) {
	n := impl.Net{Places: 7, Steps: []impl.Step{
		{In: []int{2}, Out: []int{0, 2}}, {In: []int{2}, Out: []int{1, 2}},
		{In: []int{2}, Out: []int{3}}, {In: []int{3}, Out: []int{4}}, {In: []int{4}, Out: []int{5}},
		{In: []int{6}, Out: []int{2}},
	}}
	if wait {
		return n, tokenAlone(7, 6)
	}
	return n, tokenAlone(7, 2)
}

func TestJustMaxMarks(t *testing.T) {
	n, m := numberedNet(false)
	holdMarks(t, n, m)
	if marks, ok := impl.MarksFrom(n, m); !ok || len(marks) != impl.MaxMarks {
		t.Error(len(marks), ok)
	}
	n, m = numberedNet(true)
	holdMarks(t, n, m)
	if marks, ok := impl.MarksFrom(n, m); ok || len(marks) != 0 {
		t.Error(len(marks), ok)
	}
	// The end is the very marking from which there are too many.
	if steps, ok := impl.FinishFrom(n, m); ok || len(steps) != 0 {
		t.Error(steps, ok)
	}
}

func TestSoundAtJustMaxMarks(t *testing.T) {
	four := []impl.Step{
		{In: []int{0}, Out: []int{0, 1}}, {In: []int{0}, Out: []int{0, 2}},
		{In: []int{0}, Out: []int{3}}, {In: []int{3}, Out: []int{4}}, {In: []int{4}, Out: []int{5}},
	}
	n := impl.Net{Places: 8, Steps: four}
	if marks, ok := impl.MarksFrom(n, tokenAlone(8, 0)); !ok || len(marks) != impl.MaxMarks {
		t.Error(len(marks), ok)
	}
	if sound, ok := impl.IsSound(n); sound || !ok {
		t.Error(sound, ok)
	}
	// One marking more: the beginning itself lies ahead of 400 others.
	one := impl.Net{Places: 8, Steps: []impl.Step{
		{In: []int{3}, Out: []int{1, 3}}, {In: []int{3}, Out: []int{2, 3}},
		{In: []int{0}, Out: []int{3}}, {In: []int{3}, Out: []int{4}}, {In: []int{4}, Out: []int{5}}, {In: []int{5}, Out: []int{6}},
	}}
	if marks, ok := impl.MarksFrom(one, tokenAlone(8, 3)); !ok || len(marks) != impl.MaxMarks {
		t.Error(len(marks), ok)
	}
	if sound, ok := impl.IsSound(one); sound || ok {
		t.Error(sound, ok)
	}
	holdSound(t, one)
}

func TestWhyNetsAreNotSound(t *testing.T) {
	cases := []struct {
		n         impl.Net
		sound, ok bool
	}{
		{impl.Net{Places: 2, Steps: []impl.Step{{In: []int{0}, Out: []int{1}}}}, true, true},
		// One place is too few, whatever its steps.
		{impl.Net{Places: 1}, false, false},
		{impl.Net{Places: 1, Steps: []impl.Step{{In: []int{0}, Out: []int{0}}}}, false, false},
		// Nothing leads to the end.
		{impl.Net{Places: 2}, false, true},
		{impl.Net{Places: 8}, false, true},
		// The end is come to, but not from everywhere.
		{impl.Net{Places: 3, Steps: []impl.Step{{In: []int{0}, Out: []int{2}}, {In: []int{0}, Out: []int{1}}}}, false, true},
		{impl.Net{Places: 2, Steps: []impl.Step{{In: []int{0}, Out: []int{1}}, {In: []int{0}}}}, false, true},
		{impl.Net{Places: 2, Steps: []impl.Step{{In: []int{0}, Out: []int{1}}, {In: []int{1}}}}, false, true},
		// From everywhere, but with a token in the last place ahead of the end.
		{impl.Net{Places: 3, Steps: []impl.Step{{In: []int{0}, Out: []int{1, 2}}, {In: []int{1}}}}, false, true},
		{impl.Net{Places: 2, Steps: []impl.Step{{In: []int{0}, Out: []int{0, 1}}, {In: []int{0}, Out: nil}, {In: []int{1}, Out: []int{0}}}}, false, true},
		// A step that never fires.
		{impl.Net{Places: 3, Steps: []impl.Step{{In: []int{0}, Out: []int{2}}, {In: []int{1}, Out: []int{2}}}}, false, true},
		{impl.Net{Places: 2, Steps: []impl.Step{{In: []int{0}, Out: []int{1}}, {In: []int{0, 1}, Out: []int{1}}}}, false, true},
		// From the end back to the beginning, which is sound by these words.
		{impl.Net{Places: 2, Steps: []impl.Step{{In: []int{0}, Out: []int{1}}, {In: []int{1}, Out: []int{0}}}}, true, true},
		{impl.Net{Places: 2, Steps: []impl.Step{{In: []int{0}, Out: []int{1}}, {}}}, true, true},
		// Too many markings.
		{impl.Net{Places: 4, Steps: []impl.Step{{Out: []int{0}}, {Out: []int{1}}, {Out: []int{2}}}}, false, false},
	}
	for _, c := range cases {
		if sound, ok := impl.IsSound(c.n); sound != c.sound || ok != c.ok {
			t.Errorf("IsSound %v: %v, %v", c.n, sound, ok)
		}
		holdSound(t, c.n)
	}
}

func TestLeastOfShortestLists(t *testing.T) {
	// From 0 to 4 by way of 1, 2 or 3, by twins of steps, and by a longer way with lesser numbers.
	n := impl.Net{Places: 5, Steps: []impl.Step{
		{In: []int{0}, Out: []int{3}}, {In: []int{3}, Out: []int{1}}, {In: []int{2}, Out: []int{4}}, {In: []int{1}, Out: []int{4}},
		{In: []int{0}, Out: []int{2}}, {In: []int{0}, Out: []int{1}}, {In: []int{0}, Out: []int{2}}, {In: []int{2}, Out: []int{4}},
	}}
	cases := []struct{ m, want []int }{
		{[]int{1, 0, 0, 0, 0}, []int{4, 2}},
		{[]int{0, 0, 0, 1, 0}, []int{1, 3}},
		{[]int{0, 1, 0, 0, 0}, []int{3}},
		{[]int{0, 0, 1, 0, 0}, []int{2}},
		{[]int{0, 0, 0, 0, 1}, nil},
	}
	for _, c := range cases {
		if got, ok := impl.FinishFrom(n, c.m); !ok || !slices.Equal(got, c.want) {
			t.Error(c, got, ok)
		}
	}
	for _, m := range [][]int{{0, 0, 0, 0, 0}, {1, 1, 0, 0, 0}, {0, 0, 0, 0, 2}, {0, 0, 0, 1, 1}} {
		if got, ok := impl.FinishFrom(n, m); ok || len(got) != 0 {
			t.Error(m, got, ok)
		}
	}
	// Several orders of the same steps: the least one.
	both := impl.Net{Places: 3, Steps: []impl.Step{{In: []int{1}}, {In: []int{0}}, {Out: []int{2}}}}
	if got, ok := impl.FinishFrom(both, []int{1, 1, 0}); !ok || !slices.Equal(got, []int{0, 1, 2}) {
		t.Error(got, ok)
	}
	// With one place the beginning is the end.
	one := impl.Net{Places: 1, Steps: []impl.Step{{In: []int{0}}}}
	for _, c := range []struct{ m, want []int }{{[]int{1}, nil}, {[]int{3}, []int{0, 0}}} {
		if got, ok := impl.FinishFrom(one, c.m); !ok || !slices.Equal(got, c.want) {
			t.Error(c, got, ok)
		}
	}
	if got, ok := impl.FinishFrom(one, []int{0}); ok || len(got) != 0 {
		t.Error(got, ok)
	}
}

func TestMarksInOrder(t *testing.T) {
	n := impl.Net{Places: 3, Steps: []impl.Step{{In: []int{0}, Out: []int{2}}, {In: []int{0}, Out: []int{1}}, {In: []int{1}, Out: []int{0}}}}
	want := [][]int{{2, 0, 0}, {1, 0, 1}, {1, 1, 0}, {0, 0, 2}, {0, 1, 1}, {0, 2, 0}}
	for range 20 {
		if got, ok := impl.MarksFrom(n, []int{2, 0, 0}); !ok || !sameLists(got, want) {
			t.Fatal(got, ok)
		}
	}
	for _, tokens := range []int{0, 9} {
		m := slices.Repeat([]int{tokens}, impl.MaxPlaces)
		if got, ok := impl.MarksFrom(impl.Net{Places: impl.MaxPlaces}, m); !ok || !sameLists(got, [][]int{m}) {
			t.Error(got, ok)
		}
	}
}

func TestListsOfPlaces(t *testing.T) {
	for places := 1; places <= 3; places++ {
		for length := range 5 {
			values := make([]int, length)
			for i := range values {
				values[i] = places + 1
			}
			everyCut(values, func(cut []int) {
				l := make([]int, length)
				good := true
				for i := range cut {
					l[i] = cut[i] - 1
					good = good && l[i] >= 0 && l[i] < places && (i == 0 || l[i-1] < l[i])
				}
				for _, s := range []impl.Step{{In: l}, {Out: l}, {In: l, Out: l}} {
					for _, steps := range [][]impl.Step{{s}, {{}, s}, {s, {}}} {
						if got := impl.GoodNet(impl.Net{Places: places, Steps: steps}); got != good {
							t.Fatalf("GoodNet %d, %v: %v", places, steps, got)
						}
					}
				}
			})
		}
	}
	for _, p := range []int{-1, 2, 8, math.MinInt, math.MaxInt} {
		for _, l := range [][]int{{p}, {0, p}, {p, 1}} {
			if impl.GoodNet(impl.Net{Places: 2, Steps: []impl.Step{{In: l}}}) || impl.GoodNet(impl.Net{Places: 2, Steps: []impl.Step{{Out: l}}}) {
				t.Error(l, "is taken")
			}
		}
	}
	all := []int{0, 1, 2, 3, 4, 5, 6, 7}
	if !impl.GoodNet(impl.Net{Places: impl.MaxPlaces, Steps: slices.Repeat([]impl.Step{{In: all, Out: all}}, impl.MaxSteps)}) {
		t.Error("the greatest net is refused")
	}
}

func badNets() []impl.Net {
	good := []impl.Step{{In: []int{0}, Out: []int{1}}}
	var bad []impl.Net
	for _, places := range []int{0, -1, impl.MaxPlaces + 1, math.MinInt, math.MaxInt} {
		bad = append(bad, impl.Net{Places: places}, impl.Net{Places: places, Steps: good}, impl.Net{Places: places, Steps: []impl.Step{{}}})
	}
	bad = append(bad, impl.Net{Places: 1, Steps: good}, impl.Net{Places: 2, Steps: slices.Repeat(good, impl.MaxSteps+1)})
	for _, l := range [][]int{{1, 0}, {0, 0}, {1, 1}, {-1}, {2}, {0, 1, 2}, {0, 2}, {-1, 0}, {math.MinInt}, {math.MaxInt}, {0, 1, 1}} {
		for _, s := range []impl.Step{{In: l}, {Out: l}, {In: []int{0}, Out: l}, {In: l, Out: []int{1}}} {
			bad = append(bad, impl.Net{Places: 2, Steps: []impl.Step{s}}, impl.Net{Places: 2, Steps: []impl.Step{{In: []int{0}, Out: []int{1}}, s}})
		}
	}
	return bad
}

// holdRefused holds that each function with a net, a marking and a list in its arguments tells the zero answer.
func holdRefused(t *testing.T, n impl.Net, m []int) {
	t.Helper()
	for step := range 3 {
		if can, ok := impl.CanFire(n, m, step-1); can || ok {
			t.Errorf("CanFire %v, %v, %d: %v, %v", n, m, step-1, can, ok)
		}
		if got, ok := impl.FireStep(n, m, step-1); len(got) != 0 || ok {
			t.Errorf("FireStep %v, %v, %d: %v, %v", n, m, step-1, got, ok)
		}
	}
	for _, l := range [][]int{nil, {0}, {0, 1}} {
		if got, fired, ok := impl.PlayNet(n, m, l); len(got) != 0 || fired != 0 || ok {
			t.Errorf("PlayNet %v, %v, %v: %v, %d, %v", n, m, l, got, fired, ok)
		}
	}
	if got, ok := impl.MarksFrom(n, m); len(got) != 0 || ok {
		t.Errorf("MarksFrom %v, %v: %v, %v", n, m, got, ok)
	}
	if got, ok := impl.CountSteps(n, m, make([]int, len(n.Steps))); len(got) != 0 || ok {
		t.Errorf("CountSteps %v, %v: %v, %v", n, m, got, ok)
	}
	if got, ok := impl.FinishFrom(n, m); len(got) != 0 || ok {
		t.Errorf("FinishFrom %v, %v: %v, %v", n, m, got, ok)
	}
}

func TestBadNets(t *testing.T) {
	for _, n := range badNets() {
		if impl.GoodNet(n) {
			t.Errorf("GoodNet takes %v", n)
		}
		for length := range impl.MaxPlaces + 2 {
			m := make([]int, length)
			holdRefused(t, n, m)
			if length > 0 {
				holdRefused(t, n, tokenAlone(length, length-1))
			}
			if invariant, ok := impl.IsInvariant(n, m); invariant || ok {
				t.Errorf("IsInvariant %v, %v: %v, %v", n, m, invariant, ok)
			}
		}
		if sound, ok := impl.IsSound(n); sound || ok {
			t.Errorf("IsSound %v: %v, %v", n, sound, ok)
		}
	}
}

func TestBadMarkings(t *testing.T) {
	n := impl.Net{Places: 2, Steps: []impl.Step{{}, {In: []int{0}, Out: []int{1}}}}
	marks := [][]int{nil, {}, {0}, {1}, {0, 0, 0}, {1, 0, 0}, {0, 1, 0}, make([]int, 8), make([]int, 9)}
	for _, tokens := range []int{-1, impl.MaxTokens + 1, math.MinInt, math.MaxInt} {
		marks = append(marks, []int{tokens, 0}, []int{0, tokens}, []int{tokens, tokens}, []int{tokens, 1})
	}
	for _, m := range marks {
		holdRefused(t, n, m)
	}
}

func TestBadNumbersOfSteps(t *testing.T) {
	n := impl.Net{Places: 2, Steps: []impl.Step{{}, {In: []int{0}, Out: []int{1}}}}
	m := []int{1, 0}
	for _, step := range []int{-1, 2, 3, impl.MaxSteps, math.MinInt, math.MaxInt} {
		if can, ok := impl.CanFire(n, m, step); can || ok {
			t.Error(step, can, ok)
		}
		if got, ok := impl.FireStep(n, m, step); len(got) != 0 || ok {
			t.Error(step, got, ok)
		}
		for _, l := range [][]int{{step}, {0, step}, {step, 1}, {1, 1, step}} {
			if got, fired, ok := impl.PlayNet(n, m, l); len(got) != 0 || fired != 0 || ok {
				t.Error(l, got, fired, ok)
			}
		}
		if can, ok := impl.CanFire(impl.Net{Places: 2}, m, step); can || ok {
			t.Error(step, can, ok)
		}
	}
	if can, ok := impl.CanFire(impl.Net{Places: 2}, m, 0); can || ok {
		t.Error(can, ok)
	}
}

func TestBadWeights(t *testing.T) {
	n := impl.Net{Places: 2, Steps: []impl.Step{{In: []int{0}, Out: []int{1}}}}
	lists := [][]int{nil, {}, {1}, {1, 1, 1}, make([]int, 8), make([]int, 9)}
	for _, weight := range []int{-101, 101, math.MinInt, math.MaxInt} {
		lists = append(lists, []int{weight, 0}, []int{0, weight}, []int{weight, weight})
	}
	for _, weights := range lists {
		if invariant, ok := impl.IsInvariant(n, weights); invariant || ok {
			t.Error(weights, invariant, ok)
		}
		for _, m := range [][]int{{0, 0}, {9, 9}} {
			if w, ok := impl.WeightOf(m, weights); w != 0 || ok {
				t.Error(m, weights, w, ok)
			}
		}
	}
}

func TestBadMarkingsHaveNoWeight(t *testing.T) {
	for _, tokens := range []int{-1, 10, math.MinInt, math.MaxInt} {
		for _, m := range [][]int{{tokens}, {tokens, 1}, {1, tokens}} {
			if w, ok := impl.WeightOf(m, slices.Repeat([]int{1}, len(m))); w != 0 || ok {
				t.Error(m, w, ok)
			}
		}
	}
	for length := range impl.MaxPlaces + 4 {
		m := slices.Repeat([]int{2}, length)
		w, ok := impl.WeightOf(m, m)
		if good := length >= 1 && length <= impl.MaxPlaces; ok != good || good && w != 4*length || !good && w != 0 {
			t.Error(m, w, ok)
		}
	}
	if w, ok := impl.WeightOf(nil, nil); w != 0 || ok {
		t.Error(w, ok)
	}
}

func TestBadCounts(t *testing.T) {
	n := impl.Net{Places: 2, Steps: []impl.Step{{In: []int{0}, Out: []int{1}}, {In: []int{1}}}}
	lists := [][]int{nil, {}, {1}, {1, 1, 1}, make([]int, impl.MaxSteps), make([]int, impl.MaxSteps+1)}
	for _, count := range []int{-1, 101, math.MinInt, math.MaxInt} {
		lists = append(lists, []int{count, 0}, []int{0, count}, []int{count, count})
	}
	for _, counts := range lists {
		if got, ok := impl.CountSteps(n, []int{1, 1}, counts); len(got) != 0 || ok {
			t.Error(counts, got, ok)
		}
	}
}
