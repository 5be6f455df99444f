package tests

import (
	"slices"
	"testing"

	"loop.example/g00269/impl"
)

// fillVec writes one number over a list, up to its capacity.
func fillVec(l []int, n int) {
	l = l[:cap(l)]
	for i := range l {
		l[i] = n
	}
}

func TestActsAreLeftAlone(t *testing.T) {
	bad := impl.Act{Proc: -9, From: 99}
	for procs := 1; procs <= impl.MaxProcs; procs++ {
		for _, count := range []int{0, 1, 9, impl.MaxActs} {
			all := append(someActs(procs, count, uint64(procs)), bad, bad, bad)
			kept := slices.Clone(all)
			cuts := append(make([]int, procs), -7, 99, -7)
			keptCuts := slices.Clone(cuts)
			l, cut := all[:count], cuts[:procs]
			impl.LamportOf(procs, l)
			impl.VectorsOf(procs, l)
			impl.AheadOf(procs, l, 0, count-1)
			whole, ok := impl.CutIsWhole(procs, l, cut)
			if !impl.GoodActs(procs, l) || !whole || !ok {
				t.Error("what lies behind the acts or the cut is read")
			}
			if ahead, ok := impl.AheadOf(procs, l, count, count); ahead || ok {
				t.Error("an act behind the list's length is asked for")
			}
			if !slices.Equal(all, kept) || !slices.Equal(cuts, keptCuts) {
				t.Error("an argument, or what lies behind it, is written into")
			}
		}
	}
}

func TestBadActsAreLeftAlone(t *testing.T) {
	for _, bad := range badActs() {
		kept := slices.Clone(bad.l)
		impl.GoodActs(bad.procs, bad.l)
		impl.LamportOf(bad.procs, bad.l)
		impl.VectorsOf(bad.procs, bad.l)
		impl.AheadOf(bad.procs, bad.l, 0, 1)
		impl.CutIsWhole(bad.procs, bad.l, []int{0, 0})
		if !slices.Equal(bad.l, kept) {
			t.Errorf("%v was changed into %v", kept, bad.l)
		}
	}
}

func TestActAnswersShareNoMemory(t *testing.T) {
	l := someActs(impl.MaxProcs, impl.MaxActs, 5)
	numbers, _ := impl.LamportOf(impl.MaxProcs, l)
	keptNumbers := slices.Clone(numbers)
	fillVec(numbers, -5)
	if again, _ := impl.LamportOf(impl.MaxProcs, l); !slices.Equal(again, keptNumbers) {
		t.Error("an answer of LamportOf is told again")
	}
	vectors, _ := impl.VectorsOf(impl.MaxProcs, l)
	want := vectorsByDefinition(impl.MaxProcs, l, aheadByDefinition(l))
	for i := range vectors {
		if !slices.Equal(vectors[i], want[i]) {
			t.Fatalf("the list of act %d shares memory with one ahead of it", i)
		}
		fillVec(vectors[i], -5)
	}
	if again, _ := impl.VectorsOf(impl.MaxProcs, l); !slices.EqualFunc(again, want, slices.Equal[[]int]) {
		t.Error("an answer of VectorsOf is told again")
	}
}

func TestVecsShareNoMemory(t *testing.T) {
	for length := range impl.MaxProcs + 1 {
		all := []int{1, 5, 2, 6, 3, 7, -1, -1, -1}
		other := []int{4, 2, 5, 3, 6, 4, 99, 99, 99}
		keptAll, keptOther := slices.Clone(all), slices.Clone(other)
		a, b := all[:length], other[:length]
		for range 2 {
			impl.CompareVec(a, b)
			impl.CompareVec(a, a)
			joined, ok := impl.JoinVec(a, b)
			if !ok || !slices.Equal(joined, []int{4, 5, 5, 6, 6, 7}[:length]) {
				t.Fatal(joined, ok)
			}
			fillVec(joined, -5)
			same, ok := impl.JoinVec(a, a)
			if !ok || !slices.Equal(same, keptAll[:length]) {
				t.Fatal(same, ok)
			}
			fillVec(same, -5)
			if !slices.Equal(all, keptAll) || !slices.Equal(other, keptOther) {
				t.Fatal("an argument, or what lies behind it, is written into")
			}
		}
	}
}
