package tests

import (
	"math"
	"slices"
	"strings"
	"sync"
	"testing"

	"loop.example/g00269/impl"
)

// noVersions are numbers that no version is.
var noVersions = append([]int{-1, -2, -9, -10, -11, 1000001, 1000002, 1000010, 2000000}, farNumbers...)

// noRegions are numbers that no region has.
var noRegions = append([]int{-1, -2, -9, -10, 10, 11, 19, 20, 256}, farNumbers...)

// edgeVersions are at and about the bounds and multiples of RegionStep.
func edgeVersions() []int {
	var l []int
	for _, about := range []int{10, 20, 100, 500000, 999980, 999990} {
		for version := about - 10; version <= about+10; version++ {
			l = append(l, version)
		}
	}
	slices.Sort(l)
	return slices.Compact(l)
}

func holdRegion(t *testing.T, version int) {
	t.Helper()
	region, ok := impl.RegionOf(version)
	if !ok || region != regionByWords(version) {
		t.Fatalf("RegionOf %d: %d, %v", version, region, ok)
	}
}

// holdNextVersion holds promise 13 of a version and a region: the next version tells the region, is above, and none between is so.
func holdNextVersion(t *testing.T, version int, region int) {
	t.Helper()
	want, good := nextVersionByWords(version, region)
	next, ok := impl.NextVersion(version, region)
	if next != want || ok != good {
		t.Fatalf("NextVersion %d, %d: %d, %v, not %d, %v", version, region, next, ok, want, good)
	}
	if !ok {
		return
	}
	if tells, ok := impl.RegionOf(next); !ok || tells != region || next <= version || next > version+impl.RegionStep {
		t.Fatalf("NextVersion %d, %d: %d tells %d, %v", version, region, next, tells, ok)
	}
}

func holdGraceful(t *testing.T, from int, to int) bool {
	t.Helper()
	want, good := gracefulByWords(from, to)
	is, ok := impl.IsGraceful(from, to)
	if is != want || ok != good {
		t.Fatalf("IsGraceful %d, %d: %v, %v, not %v, %v", from, to, is, ok, want, good)
	}
	return is
}

// namesAbout tells the names of a list, and some that are ahead of all, between, behind all, and no names at all.
func namesAbout(l []impl.Domain) []string {
	names := []string{"", "0", "a", "zzzzzzzzzzzz", longestName, "m", "kx7", "A", "a.", longestName + "a", "\xff"}
	for _, d := range l {
		names = append(names, d.Name, d.Name+"0", d.Name[:max(0, len(d.Name)-1)], strings.ToUpper(d.Name))
	}
	return names
}

// holdDomains holds all that is told of one good list.
func holdDomains(t *testing.T, l []impl.Domain) {
	t.Helper()
	if !impl.GoodDomains(l) {
		t.Fatalf("GoodDomains refuses %#v", l)
	}
	for _, name := range namesAbout(l) {
		holdLeader(t, l, name)
		for region := range impl.RegionStep {
			holdFailOver(t, l, name, region)
		}
		for _, region := range noRegions {
			holdFailOverRefused(t, l, name, region)
		}
	}
	holdPair(t, l, l)
	holdPair(t, l, nil)
	holdPair(t, []impl.Domain{}, l)
}

func holdLeader(t *testing.T, l []impl.Domain, name string) {
	t.Helper()
	d, there := toldOf(l, name)
	region, ok := impl.LeaderOf(l, name)
	if ok != there || !there && region != 0 || there && region != regionByWords(d.Version) {
		t.Fatalf("LeaderOf %#v, %q: %d, %v", l, name, region, ok)
	}
}

func holdFailOver(t *testing.T, l []impl.Domain, name string, region int) {
	t.Helper()
	want, good := failOverByWords(l, name, region)
	after, ok := impl.FailOver(l, name, region)
	if ok != good || !slices.Equal(after, want) {
		t.Fatalf("FailOver %#v, %q, %d: %#v, %v, not %#v, %v", l, name, region, after, ok, want, good)
	}
	if !ok {
		return
	}
	if leads, ok := impl.LeaderOf(after, name); !ok || leads != region || !impl.GoodDomains(after) {
		t.Fatalf("FailOver %#v, %q, %d: %#v is led by %d, %v", l, name, region, after, leads, ok)
	}
	// What is known behind it is more than what was known ahead of it.
	holdKnows(t, l, after, true)
	holdKnows(t, after, l, false)
	holdMerge(t, l, after, after)
}

func holdFailOverRefused(t *testing.T, l []impl.Domain, name string, region int) {
	t.Helper()
	if after, ok := impl.FailOver(l, name, region); ok || len(after) != 0 {
		t.Fatalf("FailOver %#v, %q, %d: %#v, %v", l, name, region, after, ok)
	}
}

// holdMerge holds what two lists make together, the same both ways.
func holdMerge(t *testing.T, a []impl.Domain, b []impl.Domain, want []impl.Domain) {
	t.Helper()
	for _, pair := range [][2][]impl.Domain{{a, b}, {b, a}} {
		got, ok := impl.MergeDomains(pair[0], pair[1])
		if !ok || !slices.Equal(got, want) {
			t.Fatalf("MergeDomains %#v, %#v: %#v, %v, not %#v", pair[0], pair[1], got, ok, want)
		}
		if !impl.GoodDomains(got) {
			t.Fatalf("MergeDomains %#v, %#v: %#v is not good", pair[0], pair[1], got)
		}
	}
}

func holdMergeRefused(t *testing.T, a []impl.Domain, b []impl.Domain) {
	t.Helper()
	for _, pair := range [][2][]impl.Domain{{a, b}, {b, a}} {
		if got, ok := impl.MergeDomains(pair[0], pair[1]); ok || len(got) != 0 {
			t.Fatalf("MergeDomains %#v, %#v: %#v, %v", pair[0], pair[1], got, ok)
		}
	}
}

func holdKnows(t *testing.T, a []impl.Domain, b []impl.Domain, want bool) {
	t.Helper()
	if knows, ok := impl.KnowsAll(a, b); !ok || knows != want {
		t.Fatalf("KnowsAll %#v, %#v: %v, %v", a, b, knows, ok)
	}
}

func holdKnowsRefused(t *testing.T, a []impl.Domain, b []impl.Domain) {
	t.Helper()
	if knows, ok := impl.KnowsAll(a, b); knows || ok {
		t.Fatalf("KnowsAll %#v, %#v: %v, %v", a, b, knows, ok)
	}
}

// holdPair holds all that is told of two good lists; it tells whether they are not too many together.
func holdPair(t *testing.T, a []impl.Domain, b []impl.Domain) bool {
	t.Helper()
	holdKnows(t, a, b, knowsByWords(a, b))
	holdKnows(t, b, a, knowsByWords(b, a))
	all := mergeByWords(a, b)
	if len(all) > impl.MaxDomains {
		holdMergeRefused(t, a, b)
		return false
	}
	holdMerge(t, a, b, all)
	// What both know together has all of either, and taking one in once more changes nothing.
	for _, l := range [][]impl.Domain{a, b, all} {
		holdKnows(t, l, all, true)
		holdMerge(t, all, l, all)
	}
	// Two who know all of each other know the same.
	if knowsByWords(a, b) && knowsByWords(b, a) && !slices.Equal(a, b) {
		t.Fatalf("%#v and %#v know all of each other", a, b)
	}
	holdKnows(t, a, b, slices.Equal(all, b))
	return true
}

// holdDomainsRefused holds the zero answer of each function where a list is not good, on either side.
func holdDomainsRefused(t *testing.T, l []impl.Domain) {
	t.Helper()
	if impl.GoodDomains(l) {
		t.Fatalf("GoodDomains takes %#v", l)
	}
	for _, name := range namesAbout(l) {
		if region, ok := impl.LeaderOf(l, name); region != 0 || ok {
			t.Fatalf("LeaderOf %#v, %q: %d, %v", l, name, region, ok)
		}
		for _, region := range []int{-1, 0, 5, 9, 10, math.MinInt, math.MaxInt} {
			holdFailOverRefused(t, l, name, region)
		}
	}
	for _, other := range [][]impl.Domain{nil, {}, l, domainsOf("a", 10, ""), plainDomains(12)} {
		holdMergeRefused(t, l, other)
		holdKnowsRefused(t, l, other)
		holdKnowsRefused(t, other, l)
	}
}

// holdEitherDomains holds a list by whether the words call it good; it tells that.
func holdEitherDomains(t *testing.T, l []impl.Domain) bool {
	t.Helper()
	if goodDomainsByWords(l) {
		holdDomains(t, l)
		return true
	}
	holdDomainsRefused(t, l)
	return false
}

func TestVersionsAreAsTold(t *testing.T) {
	if impl.RegionStep != 10 || impl.MaxDomains != 12 || len(longestNote) != 20 {
		t.Error(impl.RegionStep, impl.MaxDomains, len(longestNote))
	}
	lengths := map[int]bool{}
	for number := range 40 {
		lengths[len(domainName(number))] = true
	}
	if !lengths[1] || !lengths[impl.MaxName] || lengths[0] {
		t.Error(lengths)
	}
}

// Each version there is, by counting: the region goes round.
func TestRegionOfEachVersion(t *testing.T) {
	region := 0
	for version := range 1000001 {
		if tells, ok := impl.RegionOf(version); !ok || tells != region {
			t.Fatalf("RegionOf %d: %d, %v", version, tells, ok)
		}
		region++
		if region == impl.RegionStep {
			region = 0
		}
	}
	for _, version := range edgeVersions() {
		holdRegion(t, version)
	}
	for _, version := range noVersions {
		if region, ok := impl.RegionOf(version); region != 0 || ok {
			t.Errorf("RegionOf %d: %d, %v", version, region, ok)
		}
	}
}

func TestNamedNextVersions(t *testing.T) {
	for _, c := range []struct {
		version, region, next int
		ok                    bool
	}{
		{0, 0, 10, true}, {0, 1, 1, true}, {0, 9, 9, true}, {9, 0, 10, true}, {9, 9, 19, true}, {9, 8, 18, true},
		{10, 0, 20, true}, {10, 1, 11, true}, {11, 0, 20, true}, {11, 1, 21, true}, {11, 2, 12, true}, {19, 5, 25, true},
		{99, 0, 100, true}, {123456, 6, 123466, true}, {123456, 5, 123465, true}, {123456, 7, 123457, true},
		// Next versions of just 1000000, and beyond it.
		{999990, 0, 1000000, true}, {999999, 0, 1000000, true}, {999995, 0, 1000000, true}, {999990, 9, 999999, true}, {999989, 9, 999999, true},
		{1000000, 0, 0, false}, {1000000, 1, 0, false}, {1000000, 9, 0, false}, {999999, 9, 0, false}, {999999, 1, 0, false}, {999991, 1, 0, false},
		{999995, 5, 0, false}, {999995, 4, 0, false}, {999995, 6, 999996, true}, {999998, 9, 999999, true},
	} {
		if next, ok := impl.NextVersion(c.version, c.region); next != c.next || ok != c.ok {
			t.Errorf("NextVersion %d, %d: %d, %v", c.version, c.region, next, ok)
		}
		holdNextVersion(t, c.version, c.region)
	}
}

// Promise 13, of each version and each region: the least one above that tells it.
func TestNextVersionOfEach(t *testing.T) {
	var told [impl.RegionStep]int
	// From the last version back: of each region the least version that was met is the next one.
	for version := 1000000; version >= 0; version-- {
		for region, want := range told {
			if next, ok := impl.NextVersion(version, region); next != want || ok != (want != 0) {
				t.Fatalf("NextVersion %d, %d: %d, %v, not %d", version, region, next, ok, want)
			}
		}
		told[version%impl.RegionStep] = version
	}
	for _, version := range edgeVersions() {
		for region := range impl.RegionStep {
			holdNextVersion(t, version, region)
		}
	}
}

func TestNextVersionOfWrongNumbers(t *testing.T) {
	refused := func(version int, region int) {
		if next, ok := impl.NextVersion(version, region); next != 0 || ok {
			t.Errorf("NextVersion %d, %d: %d, %v", version, region, next, ok)
		}
	}
	for _, version := range noVersions {
		for region := range impl.RegionStep {
			refused(version, region)
		}
		for _, region := range noRegions {
			refused(version, region)
		}
	}
	for _, version := range edgeVersions() {
		for _, region := range noRegions {
			refused(version, region)
		}
	}
}

// Whoever leads next, and again: versions rise, by RegionStep at most, and tell each who led, up to the last one.
func TestVersionsOfManyLeads(t *testing.T) {
	for seed := range 50 {
		next := numbersFrom(uint64(90000 + seed))
		version := next(1000001)
		for range 500 {
			region := next(impl.RegionStep)
			holdNextVersion(t, version, region)
			if after, ok := impl.NextVersion(version, region); ok {
				if is := holdGraceful(t, version, after); is != (region != version%10) {
					t.Fatalf("IsGraceful %d, %d: %v", version, after, is)
				}
				version = after
			}
		}
	}
}

func TestNamedGraceful(t *testing.T) {
	for _, c := range []struct {
		from, to int
		is       bool
	}{
		{0, 0, false}, {0, 1, true}, {0, 9, true}, {0, 10, false}, {0, 11, false}, {0, 20, false}, {1, 0, false},
		{11, 21, false}, {11, 20, true}, {11, 12, true}, {11, 19, true}, {11, 11, false}, {11, 10, false}, {11, 1, false}, {11, 22, false}, {11, 31, false},
		// The next one of its region, one below and one above it.
		{19, 20, true}, {19, 19, false}, {19, 21, true}, {19, 28, true}, {19, 29, false}, {19, 30, false}, {19, 18, false},
		{999999, 1000000, true}, {999990, 1000000, false}, {999991, 1000000, true}, {999989, 1000000, false}, {1000000, 1000000, false},
		{1000000, 999999, false}, {1000000, 0, false}, {1000000, 1, false}, {999995, 0, false}, {0, 1000000, false}, {999995, 5, false}, {999999, 9, false},
	} {
		if is := holdGraceful(t, c.from, c.to); is != c.is {
			t.Errorf("IsGraceful %d, %d: %v", c.from, c.to, is)
		}
	}
}

func TestGracefulAboutTheEdges(t *testing.T) {
	graceful := 0
	for _, from := range edgeVersions() {
		for to := max(0, from-25); to <= min(1000000, from+25); to++ {
			if holdGraceful(t, from, to) {
				graceful++
			}
		}
		for _, to := range []int{0, 1, 9, 10, 500000, 999999, 1000000} {
			holdGraceful(t, from, to)
		}
		for _, wrong := range append([]int{from - 1000001, from + 1000001}, noVersions...) {
			for _, pair := range [][2]int{{from, wrong}, {wrong, from}, {wrong, wrong}} {
				if is, ok := impl.IsGraceful(pair[0], pair[1]); is || ok {
					t.Errorf("IsGraceful %d, %d: %v, %v", pair[0], pair[1], is, ok)
				}
			}
		}
	}
	// Of each from nine are graceful, fewer only where there are not so many.
	if most := 9 * len(edgeVersions()); graceful > most || graceful < most-60 {
		t.Error(graceful, most)
	}
}

func TestHowManyDomains(t *testing.T) {
	for count := range impl.MaxDomains + 1 {
		l := plainDomains(count)
		if len(l) != count {
			t.Fatal(count, l)
		}
		holdDomains(t, l)
	}
	for _, count := range []int{13, 14, 20, 40} {
		holdDomainsRefused(t, plainDomains(count))
	}
}

func TestEdgesOfDomains(t *testing.T) {
	for _, name := range []string{"a", "z", "0", "9", "00", "pay", longestName, "zzzzzzzzzzzz", "000000000000"} {
		for _, version := range []int{0, 1, 9, 10, 11, 999989, 999990, 999991, 999999, 1000000} {
			for _, note := range []string{"", "a", " ", "A.b", "\x00", "\xff", "é", strings.Repeat("\xff", 19), strings.Repeat("\xff", 20), longestNote} {
				holdDomains(t, domainsOf(name, version, note))
			}
		}
		for _, version := range noVersions {
			holdDomainsRefused(t, domainsOf(name, version, ""))
		}
		for _, note := range []string{longestNote + "a", strings.Repeat("a", 21), strings.Repeat("\x00", 21), strings.Repeat("é", 11), strings.Repeat("a", 100000)} {
			holdDomainsRefused(t, domainsOf(name, 10, note))
		}
	}
	for _, name := range append([]string{""}, noNames...) {
		holdDomainsRefused(t, domainsOf(name, 10, "a"))
		holdDomainsRefused(t, domainsOf(name, 0, ""))
	}
}

// badDomains have one thing that is not as said, at each place.
func badDomains() [][]impl.Domain {
	bad := [][]impl.Domain{
		{{}}, plainDomains(13), domainsOf("", 0, "", "a", 0, ""),
		// Names that are the same, or fall.
		domainsOf("a", 1, "", "a", 1, ""), domainsOf("a", 1, "", "a", 2, "x"), domainsOf("b", 1, "", "a", 1, ""), domainsOf("aa", 1, "", "a", 1, ""),
		domainsOf("a", 1, "", "0", 1, ""), domainsOf("a", 1, "", "c", 1, "", "b", 1, ""), domainsOf("b", 1, "", "c", 1, "", "a", 1, ""),
		domainsOf("a", 1, "", "b", 1, "", "a", 1, ""), domainsOf("a", 1, "", "b", 1, "", "b", 1, ""),
	}
	for _, count := range []int{1, 2, 5, 12} {
		for place := range count {
			change := func(do func(d *impl.Domain)) {
				l := plainDomains(count)
				do(&l[place])
				bad = append(bad, l)
			}
			for _, name := range []string{"", "A", "{", longestName + "0", "a.", "\xff"} {
				change(func(d *impl.Domain) { d.Name = name })
			}
			for _, version := range []int{-1, 1000001, math.MinInt, math.MaxInt} {
				change(func(d *impl.Domain) { d.Version = version })
			}
			change(func(d *impl.Domain) { d.Note = longestNote + "." })
			if count > 1 {
				other := plainDomains(count)[(place+1)%count].Name
				change(func(d *impl.Domain) { d.Name = other })
			}
		}
	}
	return bad
}

func TestBadDomains(t *testing.T) {
	for _, l := range badDomains() {
		if goodDomainsByWords(l) {
			t.Fatalf("%#v are to be bad", l)
		}
		holdDomainsRefused(t, l)
	}
}

// Two lists that are both wrong, and one that is wrong where the other has all that counts.
func TestBadDomainsOnEitherSide(t *testing.T) {
	bad := badDomains()
	for i, l := range bad {
		other := bad[(i*7+3)%len(bad)]
		holdMergeRefused(t, l, other)
		holdKnowsRefused(t, l, other)
		// The domain that is asked for is as said, another one is not.
		for _, d := range l {
			holdFailOverRefused(t, l, d.Name, 3)
		}
	}
}

// All lists of three domains, with names, Versions and Notes out of a few, good or not.
func TestEveryFewDomains(t *testing.T) {
	names := []string{"", "a", "b", "A"}
	good, bad := 0, 0
	for number := range 4096 {
		var l []impl.Domain
		for left, count := number, number%4; count > 0; count-- {
			left /= 4
			d := impl.Domain{Name: names[left%4], Version: []int{0, 10, 1000000, 1000001}[left/2%4]}
			d.Note = []string{"", "x", longestNote, longestNote + "x"}[left/3%4]
			l = append(l, d)
		}
		if holdEitherDomains(t, l) {
			good++
		} else {
			bad++
		}
	}
	if good < 1000 || bad < 1000 {
		t.Error(good, bad)
	}
}

func TestNamedFailOvers(t *testing.T) {
	l := domainsOf("a", 10, "x", "b", 3, "", "c", 999999, longestNote)
	for _, c := range []struct {
		name   string
		region int
		want   []impl.Domain
	}{
		{"a", 1, domainsOf("a", 11, "x", "b", 3, "", "c", 999999, longestNote)},
		{"a", 0, domainsOf("a", 20, "x", "b", 3, "", "c", 999999, longestNote)},
		{"b", 3, domainsOf("a", 10, "x", "b", 13, "", "c", 999999, longestNote)},
		{"b", 2, domainsOf("a", 10, "x", "b", 12, "", "c", 999999, longestNote)},
		{"c", 0, domainsOf("a", 10, "x", "b", 3, "", "c", 1000000, longestNote)},
		// Beyond the last version, and names that are not there.
		{"c", 9, nil}, {"c", 1, nil}, {"0", 1, nil}, {"aa", 1, nil}, {"d", 1, nil}, {"", 1, nil}, {"A", 1, nil},
		{"a", -1, nil}, {"a", 10, nil}, {"b", math.MaxInt, nil}, {"b", math.MinInt, nil},
	} {
		after, ok := impl.FailOver(l, c.name, c.region)
		if ok != (c.want != nil) || !slices.Equal(after, c.want) {
			t.Errorf("FailOver %q, %d: %#v, %v", c.name, c.region, after, ok)
		}
	}
	holdDomains(t, l)
	for _, name := range []string{"", "a", "pay"} {
		holdFailOverRefused(t, nil, name, 0)
		holdFailOverRefused(t, []impl.Domain{}, name, 0)
	}
}

// The domain at each place of the longest list, and none but it, has another version.
func TestFailOverAtEachPlace(t *testing.T) {
	for _, count := range []int{1, 2, 3, 11, 12} {
		for place := range count {
			for region := range impl.RegionStep {
				l := domainsNamed(count, []int{555, 40, 7}, []string{"n", ""})
				after, ok := impl.FailOver(l, l[place].Name, region)
				if !ok || len(after) != count {
					t.Fatalf("FailOver %#v at %d: %#v, %v", l, place, after, ok)
				}
				for i := range after {
					want := l[i]
					if i == place {
						want.Version, _ = nextVersionByWords(want.Version, region)
					}
					if after[i] != want {
						t.Fatalf("FailOver %#v at %d: %#v", l, place, after)
					}
				}
			}
		}
	}
}

// One whose version is the last one can be led by nobody else any more; the others can.
func TestFailOverUpToTheLastVersion(t *testing.T) {
	l := domainsOf("a", 999990, "", "b", 5, "")
	l, ok := impl.FailOver(l, "a", 0)
	if !ok || l[0].Version != 1000000 {
		t.Fatal(l, ok)
	}
	for region := range impl.RegionStep {
		holdFailOverRefused(t, l, "a", region)
		holdFailOver(t, l, "b", region)
	}
	if region, ok := impl.LeaderOf(l, "a"); region != 0 || !ok {
		t.Error(region, ok)
	}
}

func TestNamedLeaders(t *testing.T) {
	l := domainsOf("a", 10, "x", "b", 3, "", "c", 999999, "", "d", 0, "", longestName, 7, "")
	slices.SortFunc(l, byDomainName)
	for name, want := range map[string]int{"a": 0, "b": 3, "c": 9, "d": 0, longestName: 7} {
		if region, ok := impl.LeaderOf(l, name); !ok || region != want {
			t.Errorf("LeaderOf %q: %d, %v", name, region, ok)
		}
	}
	for _, name := range append([]string{"", "0", "aa", "bc", "e", "zzz", "abcxyz01278", "abcxyz01278z"}, noNames...) {
		if region, ok := impl.LeaderOf(l, name); region != 0 || ok {
			t.Errorf("LeaderOf %q: %d, %v", name, region, ok)
		}
		if region, ok := impl.LeaderOf(nil, name); region != 0 || ok {
			t.Errorf("LeaderOf nothing, %q: %d, %v", name, region, ok)
		}
	}
}

func TestNamedMerges(t *testing.T) {
	for _, c := range []struct{ a, b, want []impl.Domain }{
		{nil, nil, nil}, {nil, []impl.Domain{}, nil},
		{nil, domainsOf("a", 1, "x"), domainsOf("a", 1, "x")},
		// No name in common: side by side, one between, one ahead.
		{domainsOf("a", 1, ""), domainsOf("b", 2, ""), domainsOf("a", 1, "", "b", 2, "")},
		{domainsOf("a", 1, "", "c", 3, ""), domainsOf("b", 2, ""), domainsOf("a", 1, "", "b", 2, "", "c", 3, "")},
		{domainsOf("b", 1, "", "c", 3, ""), domainsOf("a", 2, "", "d", 2, ""), domainsOf("a", 2, "", "b", 1, "", "c", 3, "", "d", 2, "")},
		// All names, and some of them.
		{domainsOf("a", 1, "", "b", 9, ""), domainsOf("a", 2, "", "b", 8, ""), domainsOf("a", 2, "", "b", 9, "")},
		{domainsOf("a", 10, "", "b", 3, "x"), domainsOf("b", 3, "y", "c", 0, ""), domainsOf("a", 10, "", "b", 3, "y", "c", 0, "")},
		// The same in all; unlike Versions, where the Note does not count; the same Version and unlike Notes.
		{domainsOf("a", 5, "n"), domainsOf("a", 5, "n"), domainsOf("a", 5, "n")},
		{domainsOf("a", 6, ""), domainsOf("a", 5, "zz"), domainsOf("a", 6, "")},
		{domainsOf("a", 10, "a"), domainsOf("a", 9, "b"), domainsOf("a", 10, "a")},
		{domainsOf("a", 1000000, ""), domainsOf("a", 0, longestNote), domainsOf("a", 1000000, "")},
		{domainsOf("a", 5, ""), domainsOf("a", 5, "\x00"), domainsOf("a", 5, "\x00")},
		{domainsOf("a", 5, "x"), domainsOf("a", 5, "xa"), domainsOf("a", 5, "xa")},
		{domainsOf("a", 5, "b"), domainsOf("a", 5, "aaaa"), domainsOf("a", 5, "b")},
		{domainsOf("a", 5, "\xff"), domainsOf("a", 5, "é"), domainsOf("a", 5, "\xff")},
		{domainsOf("a", 5, "Z"), domainsOf("a", 5, "a"), domainsOf("a", 5, "a")},
		{domainsOf("a", 5, "10"), domainsOf("a", 5, "9"), domainsOf("a", 5, "9")},
	} {
		holdMerge(t, c.a, c.b, c.want)
		holdPair(t, c.a, c.b)
	}
}

// Lists that make MaxDomains together, and one more, by as many in common.
func TestMergesUpToTheLimit(t *testing.T) {
	all := plainDomains(13)
	fits, over := 0, 0
	for first := range 13 {
		for common := range first + 1 {
			// The first ones, and as many of them as are in common with all that are behind.
			a, b := all[:first], all[first-common:min(13, first-common+12)]
			if holdPair(t, a, b) {
				fits++
			} else {
				over++
			}
			if holdPair(t, a, b[:len(b)-1]) {
				fits++
			}
		}
	}
	if fits < 60 || over < 60 {
		t.Error(fits, over)
	}
	// One name more, ahead of all, between two and behind all, with none in common and with all but it.
	for place := range all {
		one := []impl.Domain{all[place]}
		rest := slices.Delete(slices.Clone(all), place, place+1)
		holdMergeRefused(t, one, rest)
		holdMergeRefused(t, rest, one)
		holdKnows(t, one, rest, false)
		holdKnows(t, rest, one, false)
		other := slices.Delete(slices.Clone(all), (place+1)%13, (place+1)%13+1)
		holdMergeRefused(t, rest, other)
		holdKnows(t, rest, other, false)
		short := slices.Delete(slices.Clone(rest), 0, 1)
		holdMerge(t, one, short, mergeByWords(one, short))
		holdMerge(t, rest, short, rest)
	}
	holdMerge(t, plainDomains(12), nil, plainDomains(12))
	holdMerge(t, plainDomains(12), plainDomains(12), plainDomains(12))
}

// Each two of all lists of few names, Versions and Notes.
func TestEveryPairOfDomains(t *testing.T) {
	lists := everyDomains([]string{"a", "b"}, []int{0, 9, 10}, []string{"", "x", "y"})
	lists = append(lists, everyDomains([]string{"0", "a", "b", "c"}, []int{3, 4}, []string{""})...)
	for _, a := range lists {
		for _, b := range lists {
			if !holdPair(t, a, b) {
				t.Fatalf("%#v, %#v", a, b)
			}
		}
	}
}

// Promise 13, of each three of some lists: what is known is put together in any order, and twice is as good as once.
func TestEveryThreeOfDomains(t *testing.T) {
	lists := everyDomains([]string{"a", "b"}, []int{4, 5}, []string{"", "x"})
	for _, a := range lists {
		for _, b := range lists {
			first, ok := impl.MergeDomains(a, b)
			if !ok {
				t.Fatalf("%#v, %#v", a, b)
			}
			for _, c := range lists {
				want := mergeByWords(a, b, c)
				holdMerge(t, first, c, want)
				second, _ := impl.MergeDomains(b, c)
				holdMerge(t, a, second, want)
				holdMerge(t, second, first, want)
			}
		}
	}
}

// Promise 13, of many lists: all orders of a few, where there are not too many in the end, come to the same.
func TestManyOrdersOfDomains(t *testing.T) {
	for seed := range 100 {
		next := numbersFrom(uint64(91000 + seed))
		var lists [][]impl.Domain
		for range 2 + next(4) {
			lists = append(lists, someDomains(next(13), 12, next))
		}
		want := mergeByWords(lists...)
		everyOrder(len(lists), func(order []int) {
			var all []impl.Domain
			for _, number := range order {
				after, ok := impl.MergeDomains(all, lists[number])
				if !ok {
					t.Fatalf("MergeDomains %#v, %#v: false", all, lists[number])
				}
				holdKnows(t, all, after, true)
				all = after
			}
			if !slices.Equal(all, want) {
				t.Fatalf("%#v in the order %v: %#v, not %#v", lists, order, all, want)
			}
		})
		for _, l := range lists {
			holdKnows(t, l, want, true)
			holdMerge(t, want, l, want)
		}
	}
}

func TestManyPairsOfDomains(t *testing.T) {
	fits, over, known := 0, 0, 0
	for seed := range 3000 {
		next := numbersFrom(uint64(92000 + seed))
		names := oneOfNumbers(next, 3, 12, 13, 14, 40)
		a, b := someDomains(next(13), names, next), someDomains(next(13), names, next)
		if holdPair(t, a, b) {
			fits++
		} else {
			over++
		}
		// Of the same names one domain is told in another way, or in the same one.
		if len(a) == 0 {
			continue
		}
		c := slices.Clone(a)
		place := next(len(c))
		c[place] = someDomain(c[place].Name, next)
		holdPair(t, a, c)
		if knows, _ := impl.KnowsAll(a, c); knows {
			known++
		}
		if c = slices.Delete(c, place, place+1); !holdPair(t, c, a) {
			t.Fatalf("%#v, %#v", c, a)
		}
		holdKnows(t, a, c, false)
		holdKnows(t, c, a, true)
	}
	if fits < 1000 || over < 300 || known < 800 || known > 2200 {
		t.Error(fits, over, known)
	}
}

func TestManyDomains(t *testing.T) {
	for seed := range 100 {
		next := numbersFrom(uint64(93000 + seed))
		l := someDomains(next(13), 40, next)
		holdDomains(t, l)
		// Whoever leads, on and on.
		for range 20 {
			if len(l) == 0 {
				break
			}
			name, region := l[next(len(l))].Name, next(impl.RegionStep)
			holdFailOver(t, l, name, region)
			if after, ok := impl.FailOver(l, name, region); ok {
				l = after
			}
		}
	}
}

func TestDomainsThatAreChanged(t *testing.T) {
	good, bad := 0, 0
	for seed := range 600 {
		next := numbersFrom(uint64(94000 + seed))
		l := someDomains(1+next(12), 40, next)
		d := &l[next(len(l))]
		switch next(4) {
		case 0:
			d.Name = []string{domainName(next(40)), d.Name + "0", "", "A"}[next(4)]
		case 1:
			d.Version += oneOfNumbers(next, -1, 1, -10, 10)
		case 2:
			d.Note += []string{"", "a", longestNote}[next(3)]
		default:
			l = append(l, someDomain(domainName(next(40)), next))
		}
		if holdEitherDomains(t, l) {
			good++
		} else {
			bad++
		}
	}
	if good < 100 || bad < 100 {
		t.Error(good, bad)
	}
}

func TestNamedKnowing(t *testing.T) {
	b := domainsOf("a", 10, "m", "c", 20, "")
	for _, c := range []struct {
		a     []impl.Domain
		knows bool
	}{
		{nil, true}, {[]impl.Domain{}, true}, {b, true}, {domainsOf("a", 10, "m"), true}, {domainsOf("c", 20, ""), true},
		{domainsOf("a", 10, ""), true}, {domainsOf("a", 10, "lz"), true}, {domainsOf("a", 9, "z"), true}, {domainsOf("a", 0, longestNote), true},
		{domainsOf("a", 10, "ma"), false}, {domainsOf("a", 10, "n"), false}, {domainsOf("a", 11, ""), false}, {domainsOf("a", 1000000, "m"), false},
		{domainsOf("b", 0, ""), false}, {domainsOf("0", 0, ""), false}, {domainsOf("d", 0, ""), false}, {domainsOf("aa", 10, "m"), false},
		{domainsOf("a", 10, "m", "b", 0, ""), false}, {domainsOf("a", 9, "", "c", 19, ""), true}, {domainsOf("a", 9, "", "c", 21, ""), false},
		{domainsOf("a", 10, "m", "c", 20, "\x00"), false}, {domainsOf("a", 10, "m", "c", 20, "", "d", 0, ""), false},
	} {
		holdKnows(t, c.a, b, c.knows)
		holdPair(t, c.a, b)
	}
	holdKnows(t, b, nil, false)
	holdKnows(t, nil, nil, true)
	// Together too many: what is not known is not known, and that is told.
	all := plainDomains(13)
	holdKnows(t, all[:12], all[1:], false)
	holdKnows(t, all[:1], all[1:], false)
	holdKnows(t, all[1:], all[1:], true)
}

// Two who fail over apart: who is ahead counts, whichever hears of it first.
func TestFailOversApart(t *testing.T) {
	for one := range impl.RegionStep {
		for two := range impl.RegionStep {
			l := domainsOf("a", 17, "n", "b", 4, "")
			a, fine := impl.FailOver(l, "a", one)
			b, also := impl.FailOver(l, "a", two)
			if !fine || !also {
				t.Fatal(one, two)
			}
			want := domainsOf("a", max(a[0].Version, b[0].Version), "n", "b", 4, "")
			holdMerge(t, a, b, want)
			holdKnows(t, a, b, a[0].Version <= b[0].Version)
			leader, _ := impl.LeaderOf(want, "a")
			if leader != one && leader != two {
				t.Errorf("%d and %d: %d leads", one, two, leader)
			}
		}
	}
}

// Many who ask at once get what one gets.
func TestDomainsAskedForAtOnce(t *testing.T) {
	var group sync.WaitGroup
	a, b := plainDomains(12), domainsNamed(12, []int{8, 9, 10}, []string{"z"})
	want := mergeByWords(a, b)
	for range 8 {
		group.Go(func() {
			for range 100 {
				if all, ok := impl.MergeDomains(a, b); !ok || !slices.Equal(all, want) {
					t.Errorf("MergeDomains: %#v, %v", all, ok)
				}
				if after, ok := impl.FailOver(b, b[3].Name, 7); !ok || after[3].Version != 17 {
					t.Errorf("FailOver: %#v, %v", after, ok)
				}
				if knows, ok := impl.KnowsAll(a, want); !knows || !ok {
					t.Errorf("KnowsAll: %v, %v", knows, ok)
				}
			}
		})
	}
	group.Wait()
}
