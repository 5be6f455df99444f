package tests

import (
	"math"
	"slices"
	"testing"

	"loop.example/g00269/impl"
)

// behind lays wrong numbers behind a list's length in its memory.
func behind(l []int) []int {
	return append(slices.Clone(l), -7, 99, math.MinInt)[:len(l)]
}

// netBehind lays wrong things behind each list of a net.
func netBehind(n impl.Net) impl.Net {
	laid := impl.Net{Places: n.Places}
	for _, s := range n.Steps {
		laid.Steps = append(laid.Steps, impl.Step{In: behind(s.In), Out: behind(s.Out)})
	}
	wrong := impl.Step{In: []int{-7}, Out: []int{99}}
	laid.Steps = append(laid.Steps, wrong, wrong)[:len(n.Steps)]
	return laid
}

// wholeNet copies all that lies in the memory of a net, up to each capacity.
func wholeNet(n impl.Net) [][]int {
	var all [][]int
	for _, s := range n.Steps[:cap(n.Steps)] {
		all = append(all, slices.Clone(s.In[:cap(s.In)]), slices.Clone(s.Out[:cap(s.Out)]))
	}
	return all
}

// netAnswers asks all functions of chapter 3 and tells each list that they answer.
func netAnswers(n impl.Net, m []int, l []int, weights []int, counts []int) [][]int {
	impl.GoodNet(n)
	impl.IsInvariant(n, weights)
	impl.WeightOf(m, weights)
	impl.IsSound(n)
	var all [][]int
	for _, step := range []int{-1, 0, 1, len(n.Steps)} {
		impl.CanFire(n, m, step)
		after, _ := impl.FireStep(n, m, step)
		all = append(all, after)
	}
	played, _, _ := impl.PlayNet(n, m, l)
	still, _, _ := impl.PlayNet(n, m, nil)
	counted, _ := impl.CountSteps(n, m, counts)
	finish, _ := impl.FinishFrom(n, m)
	marks, _ := impl.MarksFrom(n, m)
	return append(append(all, played, still, counted, finish), marks...)
}

// holdMemory holds that no argument is changed, nothing behind one is read, and no answer shares memory with it or another list.
func holdMemory(t *testing.T, n impl.Net, m []int, l []int, weights []int, counts []int) {
	t.Helper()
	want := netAnswers(n, m, l, weights, counts)
	laid := netBehind(n)
	args := [][]int{behind(m), behind(l), behind(weights), behind(counts)}
	keptNet := wholeNet(laid)
	var kept [][]int
	for _, a := range args {
		kept = append(kept, slices.Clone(a[:cap(a)]))
	}
	for range 2 {
		got := netAnswers(laid, args[0], args[1], args[2], args[3])
		if !sameLists(got, want) {
			t.Fatalf("%v, %v: what lies behind a list is read, or an answer was kept: %v, not %v", n, m, got, want)
		}
		for i := range got {
			fillVec(got[i], -5)
			if i+1 < len(got) && !sameLists(got[i+1:], want[i+1:]) {
				t.Fatalf("%v, %v: list %d of the answers shares memory with another one", n, m, i)
			}
		}
		if !sameLists(wholeNet(laid), keptNet) {
			t.Fatalf("the net %v, or what lies behind it, is written into", n)
		}
		for i, a := range args {
			if !slices.Equal(a[:cap(a)], kept[i]) {
				t.Fatalf("%v, %v: argument %d, or what lies behind it, is written into", n, m, i)
			}
		}
	}
}

func TestNetsAreLeftAlone(t *testing.T) {
	for seed := range 150 {
		next := numbersFrom(uint64(seed))
		n := someNet(1+next(impl.MaxPlaces), 1+next(impl.MaxSteps), next)
		if seed%3 == 0 {
			n = someSound(2+next(impl.MaxPlaces-1), next)
		}
		for _, m := range [][]int{tokenAlone(n.Places, 0), endOf(n), someMarking(n.Places, impl.MaxTokens, next)} {
			holdMemory(t, n, m, someSteps(n, 20, next), someMarking(n.Places, 100, next), someMarking(len(n.Steps), 100, next))
		}
	}
}

func TestBadNetsAreLeftAlone(t *testing.T) {
	for _, n := range badNets() {
		for _, m := range [][]int{nil, {1}, {1, 0}, {0, 10}} {
			holdMemory(t, n, m, []int{0, 0}, []int{1, -1}, []int{1})
		}
	}
	n := impl.Net{Places: 2, Steps: []impl.Step{{In: []int{0}, Out: []int{1}}}}
	for _, m := range [][]int{nil, {1}, {1, 0, 0}, {-1, 0}, {0, 10}} {
		holdMemory(t, n, m, []int{0, 1}, []int{101, 0}, []int{101})
	}
}

func TestStepsBehindTheList(t *testing.T) {
	all := []impl.Step{{In: []int{0}, Out: []int{1}}, {In: []int{1}, Out: []int{0}}}
	n := impl.Net{Places: 2, Steps: all[:1]}
	if can, ok := impl.CanFire(n, []int{0, 1}, 1); can || ok {
		t.Error("a step behind the list's length is asked for")
	}
	if marks, ok := impl.MarksFrom(n, []int{0, 1}); !ok || len(marks) != 1 {
		t.Error(marks, ok)
	}
}

func TestListsOfOneAnswer(t *testing.T) {
	n, m := numberedNet(false)
	marks, ok := impl.MarksFrom(n, m)
	want, _ := marksByWords(n, m)
	if !ok || len(marks) != len(want) {
		t.Fatal(len(marks), ok)
	}
	for i := range marks {
		if !slices.Equal(marks[i], want[i]) {
			t.Fatalf("list %d shares memory with one ahead of it", i)
		}
		// Put behind one list, nothing may come to lie in the next one.
		_ = append(marks[i], -9, -9)
		fillVec(marks[i], -5)
	}
	if !slices.Equal(m, want[0]) {
		t.Error("the first list is the argument itself")
	}
}
