package tests

import (
	"slices"
	"strconv"
	"strings"

	"loop.example/g00269/impl"
)

// What the document's words say of versions and domains: regions by the last digit, next versions by counting on, domains name by name.

const longestNote = "\x00 Note of 20 bytes\xff."

func isVersionByWords(version int) bool {
	return version >= 0 && version <= 1000000
}

// regionByWords takes a version; what is left of it by ten is its last digit.
func regionByWords(version int) int {
	digits := strconv.Itoa(version)
	return int(digits[len(digits)-1] - '0')
}

func nextVersionByWords(version int, region int) (int, bool) {
	if !isVersionByWords(version) || region < 0 || region > 9 {
		return 0, false
	}
	for next := version + 1; next <= 1000000; next++ {
		if regionByWords(next) == region {
			return next, true
		}
	}
	return 0, false
}

func gracefulByWords(from int, to int) (bool, bool) {
	if !isVersionByWords(from) || !isVersionByWords(to) {
		return false, false
	}
	for region := range 10 {
		if next, ok := nextVersionByWords(from, region); ok && next == to && region != regionByWords(from) {
			return true, true
		}
	}
	return false, true
}

func goodDomainsByWords(l []impl.Domain) bool {
	for i, d := range l {
		if d.Name == "" || !goodNameByWords(d.Name) || !isVersionByWords(d.Version) || len(d.Note) > 20 {
			return false
		}
		for _, ahead := range l[:i] {
			if ahead.Name >= d.Name {
				return false
			}
		}
	}
	return len(l) <= 12
}

// toldOf tells what a list has of a name.
func toldOf(l []impl.Domain, name string) (impl.Domain, bool) {
	for _, d := range l {
		if d.Name == name {
			return d, true
		}
	}
	return impl.Domain{}, false
}

// isNewer tells whether one domain has the greater Version, or the same one with a greater Note.
func isNewer(one impl.Domain, two impl.Domain) bool {
	if one.Version != two.Version {
		return one.Version > two.Version
	}
	return one.Note > two.Note
}

// namesOfAll tells the names of any number of lists, rising.
func namesOfAll(lists ...[]impl.Domain) []string {
	var names []string
	for _, d := range slices.Concat(lists...) {
		names = append(names, d.Name)
	}
	slices.Sort(names)
	return slices.Compact(names)
}

// mergeByWords takes any number of good lists; it tells what all of them together come to, be it too many or not.
func mergeByWords(lists ...[]impl.Domain) []impl.Domain {
	var all []impl.Domain
	for _, name := range namesOfAll(lists...) {
		best := impl.Domain{Version: -1}
		for _, l := range lists {
			if d, there := toldOf(l, name); there && isNewer(d, best) {
				best = d
			}
		}
		all = append(all, best)
	}
	return all
}

// knowsByWords takes good lists.
func knowsByWords(a []impl.Domain, b []impl.Domain) bool {
	for _, d := range a {
		other, there := toldOf(b, d.Name)
		if !there || other != d && !isNewer(other, d) {
			return false
		}
	}
	return true
}

func failOverByWords(l []impl.Domain, name string, region int) ([]impl.Domain, bool) {
	d, there := toldOf(l, name)
	next, ok := nextVersionByWords(d.Version, region)
	if !there || !ok || !goodDomainsByWords(l) {
		return nil, false
	}
	after := slices.Clone(l)
	for i := range after {
		if after[i].Name == name {
			after[i].Version = next
		}
	}
	return after, true
}

// domainName tells good names of domains, no two alike, of all lengths from one byte to MaxName bytes.
func domainName(number int) string {
	return nameAt(number + 1)
}

// domainsNamed makes a list of so many domains with these Versions and Notes, in turn.
func domainsNamed(count int, versions []int, notes []string) []impl.Domain {
	var l []impl.Domain
	for number := range count {
		l = append(l, impl.Domain{Name: domainName(number)})
	}
	slices.SortFunc(l, byDomainName)
	for i := range l {
		l[i].Version, l[i].Note = versions[i%len(versions)], notes[i%len(notes)]
	}
	return l
}

// plainDomains makes a list of so many domains, each of another Version.
func plainDomains(count int) []impl.Domain {
	return domainsNamed(count, []int{0, 7, 10, 999999, 1000000, 33, 500, 21, 9, 11, 100, 12345}, []string{"", "a", longestNote})
}

func byDomainName(a impl.Domain, b impl.Domain) int {
	return strings.Compare(a.Name, b.Name)
}

// domainsOf makes a list of rows of a name, a version and a note.
func domainsOf(rows ...any) []impl.Domain {
	var l []impl.Domain
	for i := 0; i < len(rows); i += 3 {
		l = append(l, impl.Domain{Name: rows[i].(string), Version: rows[i+1].(int), Note: rows[i+2].(string)})
	}
	return l
}

// someDomain draws what may be told of a name, often the same as another time.
func someDomain(name string, next func(below int) int) impl.Domain {
	return impl.Domain{
		Name:    name,
		Version: oneOfNumbers(next, 0, next(3), 10, 10+next(3), next(1000001), 999990+next(10), 1000000),
		Note:    []string{"", "", "a", "b", "ab", "\xff", "\x00", longestNote}[next(8)],
	}
}

// someDomains draws a good list of so many of the first names, up to a bound.
func someDomains(count int, names int, next func(below int) int) []impl.Domain {
	var l []impl.Domain
	for _, number := range someOrder(names, next)[:min(count, names)] {
		l = append(l, someDomain(domainName(number), next))
	}
	slices.SortFunc(l, byDomainName)
	return l
}

// everyDomains tells all lists that have each of some names or not, with Versions and Notes out of a few.
func everyDomains(names []string, versions []int, notes []string) [][]impl.Domain {
	lists := [][]impl.Domain{nil}
	for _, name := range names {
		for _, l := range lists {
			for _, version := range versions {
				for _, note := range notes {
					lists = append(lists, append(slices.Clone(l), impl.Domain{Name: name, Version: version, Note: note}))
				}
			}
		}
	}
	return lists
}

// everyOrder tells all orders of so many numbers.
func everyOrder(count int, use func(order []int)) {
	var grow func(order []int)
	grow = func(order []int) {
		if len(order) == count {
			use(order)
			return
		}
		for number := range count {
			if !slices.Contains(order, number) {
				grow(append(slices.Clone(order), number))
			}
		}
	}
	grow(nil)
}
