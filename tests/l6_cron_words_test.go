package tests

import (
	"regexp"
	"slices"
	"strconv"
	"strings"

	"loop.example/g00269/impl"
)

// The numbers of minutes, hours and days are below these.
var cronSizes = []int{60, 24, 7}

const lastCronTime = 1000000

// A moment is the minute of the hour, the hour of the day and the day of the week.
type moment [3]int

// weekOfMoments counts a week up from the beginning of its Sunday.
var weekOfMoments = func() []moment {
	var week []moment
	for day := range 7 {
		for hour := range 24 {
			for minute := range 60 {
				week = append(week, moment{minute, hour, day})
			}
		}
	}
	return week
}()

// fieldsOf tells the lists of a cron, in the order of their texts.
func fieldsOf(c impl.Cron) [][]int {
	return [][]int{c.Minutes, c.Hours, c.Days}
}

func cronOf(fields [][]int) impl.Cron {
	return impl.Cron{Minutes: fields[0], Hours: fields[1], Days: fields[2]}
}

func sameCrons(a impl.Cron, b impl.Cron) bool {
	return sameLists(fieldsOf(a), fieldsOf(b))
}

func isZeroCron(c impl.Cron) bool {
	return len(c.Minutes)+len(c.Hours)+len(c.Days) == 0
}

func goodCronByWords(c impl.Cron) bool {
	for i, l := range fieldsOf(c) {
		if len(l) == 0 || l[0] < 0 || l[len(l)-1] >= cronSizes[i] {
			return false
		}
		for at := 1; at < len(l); at++ {
			if l[at-1] >= l[at] {
				return false
			}
		}
	}
	return true
}

// fitsOfWeek tells of each minute of a week whether it fits.
func fitsOfWeek(c impl.Cron) []bool {
	fits := make([]bool, len(weekOfMoments))
	for t, m := range weekOfMoments {
		fits[t] = slices.Contains(c.Minutes, m[0]) && slices.Contains(c.Hours, m[1]) && slices.Contains(c.Days, m[2])
	}
	return fits
}

// nextTimeByWords looks at each time behind t, one by one.
func nextTimeByWords(fits []bool, t int) int {
	next := t + 1
	for !fits[next%impl.WeekMinutes] {
		next++
	}
	return next
}

func timesByWords(fits []bool, from int, to int) []int {
	var times []int
	for t := from; t < to; t++ {
		if fits[t%impl.WeekMinutes] {
			times = append(times, t)
		}
	}
	return times
}

// An item in its form; whether its numbers are within their bounds is not told by it.
var cronItem = regexp.MustCompile(`\A(\*|(0|[1-9][0-9]*)(-(0|[1-9][0-9]*))?)(/[1-9][0-9]*)?\z`)

// itemByWords tells the least number of an item, the greatest that it may reach, and its step.
func itemByWords(s string, size int) ([3]int, bool) {
	if !cronItem.MatchString(s) {
		return [3]int{}, false
	}
	body, stepText, hasStep := strings.Cut(s, "/")
	first, last, isRange := strings.Cut(body, "-")
	switch {
	case body == "*":
		first, last = "0", strconv.Itoa(size-1)
	case !isRange && hasStep:
		last = strconv.Itoa(size - 1)
	case !isRange:
		last = first
	}
	if !hasStep {
		stepText = "1"
	}
	var item [3]int
	for i, text := range []string{first, last, stepText} {
		n, err := strconv.Atoi(text)
		if err != nil {
			return [3]int{}, false
		}
		item[i] = n
	}
	return item, item[0] <= item[1] && item[1] < size
}

func fieldByWords(s string, size int) ([]int, bool) {
	var l []int
	for _, text := range strings.Split(s, ",") {
		item, ok := itemByWords(text, size)
		if !ok {
			return nil, false
		}
		for n := item[0]; n <= item[1]; n++ {
			if (n-item[0])%item[2] == 0 {
				l = append(l, n)
			}
		}
	}
	slices.Sort(l)
	return slices.Compact(l), true
}

func readByWords(s string) (impl.Cron, bool) {
	texts := strings.Split(s, " ")
	if len(texts) != 3 {
		return impl.Cron{}, false
	}
	var fields [][]int
	for i, text := range texts {
		l, ok := fieldByWords(text, cronSizes[i])
		if !ok {
			return impl.Cron{}, false
		}
		fields = append(fields, l)
	}
	return cronOf(fields), true
}

func cronTextByWords(c impl.Cron) string {
	s := ""
	for i, l := range fieldsOf(c) {
		if i > 0 {
			s += " "
		}
		if len(l) == cronSizes[i] {
			s += "*"
			continue
		}
		for at, n := range l {
			if at > 0 {
				s += ","
			}
			s += strconv.Itoa(n)
		}
	}
	return s
}

// numbersBelow are all numbers below a size.
func numbersBelow(size int) []int {
	l := make([]int, size)
	for n := range l {
		l[n] = n
	}
	return l
}

// everyTime is the cron that all times fit.
func everyTime() impl.Cron {
	return cronOf([][]int{numbersBelow(60), numbersBelow(24), numbersBelow(7)})
}

// onceAWeek is the cron that one time of a week fits.
func onceAWeek(m moment) impl.Cron {
	return impl.Cron{Minutes: []int{m[0]}, Hours: []int{m[1]}, Days: []int{m[2]}}
}

// someNumbers draws a rising list that is not empty: few numbers, many, or all.
func someNumbers(size int, next func(below int) int) []int {
	count := 1 + next([]int{1, 3, size, size}[next(4)])
	if next(6) == 0 {
		count = size
	}
	l := someOrder(size, next)[:min(count, size)]
	slices.Sort(l)
	return l
}

func someCron(next func(below int) int) impl.Cron {
	return cronOf([][]int{someNumbers(60, next), someNumbers(24, next), someNumbers(7, next)})
}

// someItem draws an item of a field of that size, good if all goes well.
func someItem(size int, next func(below int) int) string {
	number := func() string { return strconv.Itoa(next(size + next(2)*next(2))) }
	item := "*"
	switch next(4) {
	case 0, 1:
		item = number()
	case 2:
		first := next(size)
		item = strconv.Itoa(first) + "-" + strconv.Itoa(first+next(size-first))
	}
	if next(3) == 0 {
		item += "/" + strconv.Itoa(1+next([]int{3, size, 100, 1 << 30}[next(4)]))
	}
	return item
}

func someCronText(next func(below int) int) string {
	var fields []string
	for _, size := range cronSizes {
		var items []string
		for range 1 + next(4) {
			items = append(items, someItem(size, next))
		}
		fields = append(fields, strings.Join(items, ","))
	}
	return strings.Join(fields, " ")
}

// somewhatOff takes a byte out of a text, puts one in, or writes one over another.
func somewhatOff(s string, next func(below int) int) string {
	at := next(len(s))
	sign := string("0123456789*-/, +.\x00\xff"[next(19)])
	return changedAt(s, at, sign, next(3))
}

// changedAt takes the byte of a place out of a text, puts a sign ahead of it, or writes the sign over it.
func changedAt(s string, at int, sign string, how int) string {
	switch how {
	case 0:
		return s[:at] + s[at+1:]
	case 1:
		return s[:at] + sign + s[at:]
	}
	return s[:at] + sign + s[at+1:]
}
