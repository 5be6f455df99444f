package tests

import (
	"math"
	"slices"
	"testing"

	"loop.example/g00269/impl"
)

var wrongDomain = impl.Domain{Name: wrongName, Version: math.MinInt, Note: "behind the length of a list"}

// domainsBehind lays wrong domains behind a list.
func domainsBehind(l []impl.Domain) []impl.Domain {
	return append(slices.Clone(l), wrongDomain, wrongDomain, wrongDomain)[:len(l)]
}

// freshDomains makes a list of which each text has memory of its own.
func freshDomains(l []impl.Domain) []impl.Domain {
	l = slices.Clone(l)
	for i := range l {
		l[i].Name, l[i].Note = freshText(l[i].Name), freshText(l[i].Note)
	}
	return l
}

// textsOf tells all names and notes.
func textsOf(l []impl.Domain) []string {
	var texts []string
	for _, d := range l {
		texts = append(texts, d.Name, d.Note)
	}
	return texts
}

// fillDomains writes over all that a list has, up to its capacity.
func fillDomains(l []impl.Domain) {
	l = l[:cap(l)]
	for i := range l {
		l[i] = wrongDomain
	}
}

// holdNothingBehindDomains holds that behind an answer nothing lies.
func holdNothingBehindDomains(t *testing.T, l []impl.Domain) {
	t.Helper()
	for _, d := range l[len(l):cap(l)] {
		if d != (impl.Domain{}) {
			t.Fatalf("behind the domains %#v lies %#v", l, d)
		}
	}
}

// answeredDomains asks all functions that answer domains; what is refused is asked, too.
func answeredDomains(a []impl.Domain, b []impl.Domain) [][]impl.Domain {
	var all [][]impl.Domain
	for _, name := range []string{"", "a", "A"} {
		after, _ := impl.FailOver(a, name, 3)
		all = append(all, after)
	}
	for _, d := range a {
		for _, region := range []int{-1, 0, 9, 10} {
			after, _ := impl.FailOver(a, d.Name, region)
			all = append(all, after)
		}
	}
	one, _ := impl.MergeDomains(a, b)
	two, _ := impl.MergeDomains(b, a)
	three, _ := impl.MergeDomains(a, a)
	return append(all, one, two, three)
}

// answeredOfDomains asks all functions that answer numbers and bools.
func answeredOfDomains(a []impl.Domain, b []impl.Domain) []int {
	is := map[bool]int{false: 0, true: 1}
	knows, ok := impl.KnowsAll(a, b)
	known, also := impl.KnowsAll(b, a)
	all := []int{is[knows], is[ok], is[known], is[also], is[impl.GoodDomains(a)], is[impl.GoodDomains(b)]}
	for _, d := range append(slices.Clone(a), impl.Domain{Name: "a"}, wrongDomain) {
		region, ok := impl.LeaderOf(a, d.Name)
		all = append(all, region, is[ok])
	}
	return all
}

// holdDomainMemory holds that no domains are changed, nothing behind them is read, and no answer shares memory with them or another one.
func holdDomainMemory(t *testing.T, a []impl.Domain, b []impl.Domain) {
	t.Helper()
	want, numbers := answeredDomains(slices.Clip(slices.Clone(a)), slices.Clip(slices.Clone(b))), answeredOfDomains(slices.Clip(slices.Clone(a)), slices.Clip(slices.Clone(b)))
	one, two := domainsBehind(freshDomains(a)), domainsBehind(freshDomains(b))
	kept, other := slices.Clone(one[:cap(one)]), slices.Clone(two[:cap(two)])
	for range 2 {
		got := answeredDomains(one, two)
		if !slices.EqualFunc(got, want, slices.Equal[[]impl.Domain]) || !slices.Equal(answeredOfDomains(one, two), numbers) {
			t.Fatalf("%#v, %#v: what lies behind a list is read, or an answer was kept", a, b)
		}
		for i, l := range got {
			holdNothingBehindDomains(t, l)
			holdNoSharedNames(t, textsOf(l), textsOf(slices.Concat(one, two)))
			if !slices.Equal(l, want[i]) {
				t.Fatalf("%#v: answer %d shares memory with another one", a, i)
			}
			fillDomains(l)
		}
		if !slices.Equal(one[:cap(one)], kept) || !slices.Equal(two[:cap(two)], other) {
			t.Fatalf("the domains %#v or %#v, or what lies behind them, are written into", a, b)
		}
	}
	// The answers stay what they are when the arguments are changed.
	got := answeredDomains(one, two)
	fillDomains(one)
	fillDomains(two)
	if !slices.EqualFunc(got, want, slices.Equal[[]impl.Domain]) {
		t.Fatalf("%#v, %#v: an answer lies in the memory of an argument", a, b)
	}
}

func TestDomainsAreLeftAlone(t *testing.T) {
	for seed := range 150 {
		next := numbersFrom(uint64(95000 + seed))
		names := oneOfNumbers(next, 3, 12, 13, 14)
		a, b := someDomains(next(13), names, next), someDomains(next(13), names, next)
		holdDomainMemory(t, a, b)
		holdDomainMemory(t, a, a)
		holdDomainMemory(t, a, nil)
	}
	holdDomainMemory(t, nil, nil)
	holdDomainMemory(t, []impl.Domain{}, domainsOf("a", 0, "", "b", 10, longestNote))
	holdDomainMemory(t, plainDomains(12), plainDomains(12))
	holdDomainMemory(t, plainDomains(12), plainDomains(1))
	holdDomainMemory(t, plainDomains(13)[:12], plainDomains(13)[1:])
}

func TestBadDomainsAreLeftAlone(t *testing.T) {
	for _, l := range badDomains() {
		holdDomainMemory(t, l, domainsOf("a", 10, "x", "b", 4, ""))
		holdDomainMemory(t, domainsOf("a", 10, "x", "b", 4, ""), l)
	}
}

// The name that is asked for is no part of the answer, either.
func TestFailOverSharesNoName(t *testing.T) {
	l := freshDomains(plainDomains(12))
	for _, d := range plainDomains(12) {
		name := freshText(d.Name)
		after, ok := impl.FailOver(l, name, 0)
		if ok != (d.Version < 1000000) {
			t.Errorf("FailOver %q: %v", name, ok)
		}
		holdNoSharedNames(t, textsOf(after), append(textsOf(l), name))
	}
}

// Both lists may lie in one memory, one ahead of the other, over each other or the same; nothing is to be seen of it.
func TestDomainsInOneMemory(t *testing.T) {
	whole := plainDomains(14)
	kept := slices.Clone(whole)
	for from := range 15 {
		for to := from; to <= 14; to++ {
			for _, c := range [][2]int{{0, 12}, {2, 14}, {0, 1}, {5, 7}, {13, 14}, {6, 6}} {
				a, b := whole[from:to], whole[c[0]:c[1]]
				if to-from > impl.MaxDomains {
					holdMergeRefused(t, a, b)
					continue
				}
				holdPair(t, a, b)
				for _, l := range answeredDomains(a, b) {
					fillDomains(l)
				}
				if !slices.Equal(whole, kept) {
					t.Fatal("an answer lies in the memory of an argument, or an argument is written into")
				}
			}
		}
	}
}

// A list ends where its length says, whatever lies behind it.
func TestDomainsBehindTheList(t *testing.T) {
	l := plainDomains(30)
	for length := range len(l) + 1 {
		if good := impl.GoodDomains(l[:length]); good != (length <= impl.MaxDomains) {
			t.Errorf("%d domains: %v", length, good)
		}
	}
	l = domainsOf("a", 10, "", "b", 21, "", "b", 3, "", "c", 4, "")
	for length := range len(l) + 1 {
		if region, ok := impl.LeaderOf(l[:length], "b"); ok != (length == 2) || ok && region != 1 {
			t.Errorf("%d of %#v: %d, %v", length, l, region, ok)
		}
		holdFailOver(t, l[:length], "a", 1)
		holdFailOverRefused(t, l[:length], "c", 1)
	}
	// Nor does it count what stands ahead of a piece of a list.
	holdDomains(t, l[2:])
	holdMerge(t, l[2:], l[:2], domainsOf("a", 10, "", "b", 21, "", "c", 4, ""))
	holdKnows(t, l[2:3], l[:2], true)
}
