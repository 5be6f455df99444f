package tests

import (
	"math"
	"slices"
	"strconv"
	"strings"
	"testing"

	"loop.example/g00269/impl"
)

// holdNext holds the promise: the next time fits, and none between does.
func holdNext(t *testing.T, c impl.Cron, fits []bool, at int) {
	t.Helper()
	want := nextTimeByWords(fits, at)
	next, ok := impl.NextAfter(c, at)
	if !ok || next != want {
		t.Fatalf("NextAfter %v, %d: %d, %v, not %d", c, at, next, ok, want)
	}
	if fit, ok := impl.FitsAt(c, next); next <= lastCronTime && (!fit || !ok) {
		t.Fatalf("FitsAt %v, %d, the next one after %d: %v, %v", c, next, at, fit, ok)
	}
	between, ok := impl.TimesIn(c, at+1, next)
	if next <= lastCronTime && (!ok || len(between) != 0) {
		t.Fatalf("%v after %d: %v are ahead of the next one", c, at, between)
	}
}

func holdFits(t *testing.T, c impl.Cron, fits []bool, at int) {
	t.Helper()
	if fit, ok := impl.FitsAt(c, at); !ok || fit != fits[at%impl.WeekMinutes] {
		t.Fatalf("FitsAt %v, %d: %v, %v", c, at, fit, ok)
	}
}

func holdTimesIn(t *testing.T, c impl.Cron, fits []bool, from int, to int) {
	t.Helper()
	want := timesByWords(fits, from, to)
	if got, ok := impl.TimesIn(c, from, to); !ok || !slices.Equal(got, want) {
		t.Fatalf("TimesIn %v, %d, %d: %v, %v", c, from, to, got, ok)
	}
}

// holdCronText holds that a good cron comes back from its text.
func holdCronText(t *testing.T, c impl.Cron) {
	t.Helper()
	if !impl.GoodCron(c) {
		t.Fatalf("GoodCron refuses %v", c)
	}
	text, ok := impl.CronText(c)
	if !ok || text != cronTextByWords(c) {
		t.Fatalf("CronText %v: %q, %v", c, text, ok)
	}
	if again, ok := impl.ReadCron(text); !ok || !sameCrons(again, c) {
		t.Fatalf("ReadCron %q: %v, %v", text, again, ok)
	}
}

// holdCron holds each function against the document's words, of a good cron: all of the first week, and what lies at the ends.
func holdCron(t *testing.T, c impl.Cron) {
	t.Helper()
	holdCronText(t, c)
	fits := fitsOfWeek(c)
	many := len(timesByWords(fits, 0, impl.WeekMinutes))
	if got, ok := impl.ManyIn(c); !ok || got != many {
		t.Fatalf("ManyIn %v: %d, %v, not %d", c, got, ok, many)
	}
	if got, ok := impl.TimesIn(c, 0, impl.WeekMinutes); !ok || len(got) != many {
		t.Fatalf("TimesIn %v, a week: %v, %v", c, got, ok)
	}
	for _, at := range cronTimes() {
		holdNext(t, c, fits, at)
		holdFits(t, c, fits, at)
		for _, far := range []int{0, 1, 2, 59, 60, 61, 1440, 10080, 20000} {
			if at+far <= lastCronTime {
				holdTimesIn(t, c, fits, at, at+far)
			}
		}
	}
}

// cronTimes are times at which a minute, an hour, a day or a week begins or ends, and the bounds.
func cronTimes() []int {
	return []int{
		0, 1, 58, 59, 60, 61, 119, 120, 1379, 1380, 1439, 1440, 1441, 1499, 1500, 8639, 8640, 10019, 10020, 10078, 10079, 10080, 10081,
		11519, 11520, 20159, 20160, 500000, 979999, 980000, 980001, 987839, 987840, 997919, 997920, 999940, 999959, 999960, 999999, 1000000,
	}
}

// holdCronRefused holds that each function tells the zero answer of a cron that is not good.
func holdCronRefused(t *testing.T, c impl.Cron) {
	t.Helper()
	if impl.GoodCron(c) || goodCronByWords(c) {
		t.Fatalf("GoodCron takes %v", c)
	}
	if text, ok := impl.CronText(c); text != "" || ok {
		t.Errorf("CronText %v: %q, %v", c, text, ok)
	}
	if many, ok := impl.ManyIn(c); many != 0 || ok {
		t.Errorf("ManyIn %v: %d, %v", c, many, ok)
	}
	for _, at := range []int{math.MinInt, -1, 0, 1, 61, 1500, lastCronTime, lastCronTime + 1, math.MaxInt} {
		holdTimeRefused(t, c, at)
		holdSpanRefused(t, c, at, at)
		holdSpanRefused(t, c, 0, at)
	}
}

func holdTimeRefused(t *testing.T, c impl.Cron, at int) {
	t.Helper()
	if fit, ok := impl.FitsAt(c, at); fit || ok {
		t.Errorf("FitsAt %v, %d: %v, %v", c, at, fit, ok)
	}
	if next, ok := impl.NextAfter(c, at); next != 0 || ok {
		t.Errorf("NextAfter %v, %d: %d, %v", c, at, next, ok)
	}
}

func holdSpanRefused(t *testing.T, c impl.Cron, from int, to int) {
	t.Helper()
	if times, ok := impl.TimesIn(c, from, to); len(times) != 0 || ok {
		t.Errorf("TimesIn %v, %d, %d: %v, %v", c, from, to, times, ok)
	}
}

// holdRead holds what ReadCron tells of any text against the document's words.
func holdRead(t *testing.T, s string) bool {
	t.Helper()
	want, wantOk := readByWords(s)
	got, ok := impl.ReadCron(s)
	if ok != wantOk || !sameCrons(got, want) {
		t.Fatalf("ReadCron %q: %v, %v, not %v, %v", s, got, ok, want, wantOk)
	}
	if ok {
		holdCronText(t, got)
	}
	return ok
}

func TestWeekIsAsTold(t *testing.T) {
	if impl.WeekMinutes != 10080 || len(weekOfMoments) != 10080 {
		t.Error(impl.WeekMinutes)
	}
}

func TestNamedCronTexts(t *testing.T) {
	for _, c := range []struct {
		text    string
		minutes []int
		hours   []int
		days    []int
	}{
		{"*/20 8-9 1-5", []int{0, 20, 40}, []int{8, 9}, []int{1, 2, 3, 4, 5}},
		{"0 0 0", []int{0}, []int{0}, []int{0}},
		{"59 23 6", []int{59}, []int{23}, []int{6}},
		{"* * *", numbersBelow(60), numbersBelow(24), numbersBelow(7)},
		{"*/1 */1 */1", numbersBelow(60), numbersBelow(24), numbersBelow(7)},
		{"0-59 0-23 0-6", numbersBelow(60), numbersBelow(24), numbersBelow(7)},
		{"0/1 0/1 0/1", numbersBelow(60), numbersBelow(24), numbersBelow(7)},
		// A step behind a number goes on to the greatest; alone the number is all.
		{"50/4 20/3 5/1", []int{50, 54, 58}, []int{20, 23}, []int{5, 6}},
		{"50 20 5", []int{50}, []int{20}, []int{5}},
		{"59/1 23/7 6/2", []int{59}, []int{23}, []int{6}},
		{"10/60 10/24 3/7", []int{10}, []int{10}, []int{3}},
		// Steps that the last number is met by, just not met by, and that go beyond the bounds.
		{"*/59 */23 */6", []int{0, 59}, []int{0, 23}, []int{0, 6}},
		{"*/58 */22 */5", []int{0, 58}, []int{0, 22}, []int{0, 5}},
		{"*/60 */24 */7", []int{0}, []int{0}, []int{0}},
		{"*/1000 3-9/100 2/99", []int{0}, []int{3}, []int{2}},
		{"5-50/15 1-22/7 1-6/5", []int{5, 20, 35, 50}, []int{1, 8, 15, 22}, []int{1, 6}},
		{"5-49/15 1-21/7 1-5/5", []int{5, 20, 35}, []int{1, 8, 15}, []int{1}},
		{"*/9223372036854775807 5/9223372036854775807 1-6/9223372036854775807", []int{0}, []int{5}, []int{1}},
		// A range of one number, and items that overlap or stand in any order.
		{"7-7 0-0 6-6", []int{7}, []int{0}, []int{6}},
		{"7-7/3 23-23/1 0-0/9", []int{7}, []int{23}, []int{0}},
		{"9,3,9,3-5,4-6 5,4,3,3 6,0", []int{3, 4, 5, 6, 9}, []int{3, 4, 5}, []int{0, 6}},
		{"*/30,*/20 */12,6/12 1,*", []int{0, 20, 30, 40}, []int{0, 6, 12, 18}, numbersBelow(7)},
		{"*,* *,5 0-3,2-6", numbersBelow(60), numbersBelow(24), numbersBelow(7)},
	} {
		want := cronOf([][]int{c.minutes, c.hours, c.days})
		if got, ok := impl.ReadCron(c.text); !ok || !sameCrons(got, want) {
			t.Errorf("ReadCron %q: %v, %v", c.text, got, ok)
		}
		holdRead(t, c.text)
	}
}

func TestNamedTextsOfCrons(t *testing.T) {
	for _, c := range []struct {
		cron impl.Cron
		text string
	}{
		{everyTime(), "* * *"},
		{onceAWeek(moment{0, 0, 0}), "0 0 0"},
		{onceAWeek(moment{59, 23, 6}), "59 23 6"},
		{impl.Cron{Minutes: []int{0, 20, 40}, Hours: []int{8, 9}, Days: []int{1, 2, 3, 4, 5}}, "0,20,40 8,9 1,2,3,4,5"},
		{impl.Cron{Minutes: []int{5, 10}, Hours: numbersBelow(24), Days: numbersBelow(6)}, "5,10 * 0,1,2,3,4,5"},
		{impl.Cron{Minutes: numbersBelow(60), Hours: []int{0, 23}, Days: numbersBelow(7)}, "* 0,23 *"},
		{impl.Cron{Minutes: []int{1}, Hours: []int{0, 1, 2, 3, 4, 5, 6}, Days: numbersBelow(7)}, "1 0,1,2,3,4,5,6 *"},
	} {
		if got, ok := impl.CronText(c.cron); !ok || got != c.text {
			t.Errorf("CronText %v: %q, %v", c.cron, got, ok)
		}
	}
}

// A field in which 5 would be good everywhere has one of these instead.
var wrongFields = []string{
	"", ",", "5,", ",5", "5,,5", "5,,", "5-", "-5", "-", "--", "5--6", "5-6-", "5-6-7", "3-5-6/2", "5/", "/5", "/", "5//1", "5/1/1", "*/1/1", "5/1-6", "3-5/1-6",
	"6-5", "1-0", "3-2/1", "5/0", "*/0", "3-5/0", "5/00", "5/01", "*/01", "05", "00", "5-06", "05-6", "00-5", "000000005",
	"-1", "+5", "5-+6", "5/+1", "5/-1", "*/-1", "5-*", "*-5", "**", "*5", "5*", "*,", ",*", "*,,*", "*-*", "5/*", "*/*", "(5)", "5.", "5.0", "0x5", "5e0", "1_0",
	"5;6", "5:6", "5\t", "\t5", "5\n", "\n", "\v5", "5\x00", "\x00", "\xff", "٥", "５", "５-６", "*\u00a0", "sun", "MON", "?", "#", "L", "5W", "@daily", "a", "%",
	"99999999999999999999", "5-99999999999999999999", "5/99999999999999999999", "*/9223372036854775808", "9223372036854775808", "18446744073709551621",
	"9223372036854775807", "5/18446744073709551617", "340282366920938463463374607431768211461", "5-9223372036854775807",
}

// Numbers beyond their bounds, field by field.
var beyondFields = [][]string{
	{"60", "61", "100", "0-60", "60-60", "59-60", "60/1", "60/5", "5,60", "60,5", "60-61", "61-5"},
	{"24", "25", "59", "0-24", "24-24", "23-24", "24/1", "24/5", "5,24", "24,5", "24-25"},
	{"7", "8", "23", "59", "0-7", "7-7", "6-7", "7/1", "7/5", "5,7", "7,5", "7-8"},
}

func TestRefusedFields(t *testing.T) {
	for i := range cronSizes {
		for _, good := range []string{"5", "*", "1-5/2"} {
			for _, wrong := range slices.Concat(wrongFields, beyondFields[i]) {
				fields := []string{good, good, good}
				fields[i] = wrong
				if s := strings.Join(fields, " "); holdRead(t, s) {
					t.Errorf("ReadCron takes %q", s)
				}
			}
		}
	}
}

func TestRefusedTexts(t *testing.T) {
	for _, s := range []string{
		"", " ", "  ", "   ", "*", "5", "* *", "5 5", "* * ", " * *", "* * * *", "5 5 5 5", "5 5 5 5 5", "* * * ", " * * *", "*  * *", "* *  *", "* *  ", "  * * *", "* * *  ",
		"*\t*\t*", "*\n*\n*", "* *\t*", "* * *\n", "\n* * *", "* * *\x00", "*,*,*", "5,5,5", "* * *,", "*,* *", "***", "555", "*/1*/1*/1", "* - *", "5 - 5", "5 -5 5", "5 5/ 5", "5- 6 5 5",
		"5, 6 5 5", "5 ,6 5 5", "5 5 5, 6", "5 / 5", "* /5 *", "*\u00a0*\u00a0*", "5 5 5\r", "\ufeff5 5 5", "0 0 7", "0 24 0", "60 0 0",
	} {
		if holdRead(t, s) {
			t.Errorf("ReadCron takes %q", s)
		}
	}
}

func TestLongTexts(t *testing.T) {
	const many = 100000
	for s, want := range map[string]bool{
		strings.Repeat("5,", many) + "7 1 1":          true,
		strings.Repeat("*,", many) + "* 1 1":          true,
		"1 1 " + strings.Repeat("0-6/1,", many) + "3": true,
		strings.Repeat("5,", many) + " 1 1":           false,
		strings.Repeat("5", many) + " 1 1":            false,
		strings.Repeat("0", many) + "5 1 1":           false,
		"1 1 */" + strings.Repeat("9", many):          false,
		"1 1 1" + strings.Repeat(" ", many):           false,
		strings.Repeat("1 ", many) + "1":              false,
		strings.Repeat("*", many):                     false,
		strings.Repeat("-", many):                     false,
		strings.Repeat("/", many):                     false,
		strings.Repeat(",", many):                     false,
		"1 1 1" + strings.Repeat("/1", many):          false,
		"1 1 1" + strings.Repeat("-1", many):          false,
	} {
		if got, ok := impl.ReadCron(s); ok != want || !ok && !isZeroCron(got) {
			t.Errorf("ReadCron of %d bytes, %q ..: %v, %v", len(s), s[:8], got, ok)
		}
	}
}

func TestEachNumberAndRange(t *testing.T) {
	for i, size := range cronSizes {
		for first := range size + 3 {
			for last := range size + 3 {
				for _, step := range []string{"", "/1", "/2", "/7", "/61"} {
					fields := []string{"*", "*", "*"}
					fields[i] = strconv.Itoa(first) + "-" + strconv.Itoa(last) + step
					holdRead(t, strings.Join(fields, " "))
				}
			}
			for step := range size + 3 {
				for _, item := range []string{strconv.Itoa(first), strconv.Itoa(first) + "/" + strconv.Itoa(step), "*/" + strconv.Itoa(step)} {
					fields := []string{"0", "0", "0"}
					fields[i] = item
					holdRead(t, strings.Join(fields, " "))
				}
			}
		}
	}
}

func TestEachShortField(t *testing.T) {
	const signs = "0126*-/, "
	var longer func(s string, more int)
	taken := 0
	longer = func(s string, more int) {
		for _, whole := range []string{s + " 1 1", "1 " + s + " 1", "1 1 " + s, s} {
			if holdRead(t, whole) {
				taken++
			}
		}
		for i := range len(signs) {
			if more > 0 {
				longer(s+signs[i:i+1], more-1)
			}
		}
	}
	longer("", 4)
	if taken < 500 {
		t.Error("only", taken, "texts are taken")
	}
}

func TestManyCronTexts(t *testing.T) {
	taken, refused := 0, 0
	for seed := range 20000 {
		next := numbersFrom(uint64(11000 + seed))
		s := someCronText(next)
		for range next(3) {
			s = somewhatOff(s, next)
		}
		if holdRead(t, s) {
			taken++
		} else {
			refused++
		}
	}
	if taken < 4000 || refused < 4000 {
		t.Error(taken, "texts are taken,", refused, "are not")
	}
}

func TestTextsOfAnyBytes(t *testing.T) {
	for _, s := range anyTexts() {
		if holdRead(t, s) {
			t.Errorf("ReadCron takes %x", s)
		}
	}
}

func TestNamedNextTimes(t *testing.T) {
	for _, c := range []struct {
		text string
		at   int
		want int
	}{
		{"*/20 8-9 1-5", 0, 1440 + 480}, {"*/20 8-9 1-5", 1440 + 480, 1440 + 500},
		{"*/20 8-9 1-5", 1440 + 580, 2*1440 + 480}, {"*/20 8-9 1-5", 5*1440 + 580, 10080 + 1440 + 480},
		// In the same hour, in the next one, on the next day, in the next week.
		{"0,30 * *", 0, 30}, {"0,30 * *", 30, 60}, {"0,30 * *", 29, 30}, {"15 6 *", 375, 1440 + 375}, {"15 6 *", 374, 375},
		{"59 23 6", 10079, 20159}, {"59 23 6", 10078, 10079}, {"59 23 6", 0, 10079}, {"0 0 0", 0, 10080}, {"0 0 0", 10079, 10080}, {"0 0 0", 10080, 20160},
		{"0 0 6", 0, 8640}, {"0 0 6", 8640, 18720}, {"0 23 *", 1380, 2820}, {"59 0 *", 59, 1499},
		// A minute that has gone by in a good hour, an hour that has gone by on a good day.
		{"10 5,20 *", 311, 1210}, {"10 5 0,3", 311, 3*1440 + 310}, {"10 5 3", 3*1440 + 310, 10080 + 3*1440 + 310},
		{"* * *", 0, 1}, {"* * *", 10079, 10080}, {"* * *", 999999, 1000000}, {"* * *", 1000000, 1000001},
		// The last time is minute 40 of hour 10 of day 1; its week ends at 1008000.
		{"40 10 1", 999999, 1000000}, {"40 10 1", 1000000, 1010080}, {"39 10 1", 999998, 999999}, {"39 10 1", 1000000, 1010079},
		{"41 10 1", 1000000, 1000001}, {"0 0 0", 1000000, 1008000}, {"0 0 0", 997920, 1008000}, {"59 23 6", 1000000, 1007999},
	} {
		cron, ok := impl.ReadCron(c.text)
		if !ok {
			t.Fatal(c.text)
		}
		if got, ok := impl.NextAfter(cron, c.at); !ok || got != c.want {
			t.Errorf("NextAfter %q, %d: %d, %v, not %d", c.text, c.at, got, ok, c.want)
		}
		holdCron(t, cron)
	}
}

func TestEachTimeOfAWeekAlone(t *testing.T) {
	for at, m := range weekOfMoments {
		c := onceAWeek(m)
		for _, row := range [][2]int{{at, at + 10080}, {at + 5000, at + 10080}, {at + 10079, at + 10080}, {at + 10081, at + 20160}} {
			if got, ok := impl.NextAfter(c, row[0]); !ok || got != row[1] {
				t.Fatalf("NextAfter %v, %d: %d, %v", c, row[0], got, ok)
			}
		}
		if got, ok := impl.TimesIn(c, at%7, at%7+10080); !ok || len(got) != 1 || got[0]%10080 != at {
			t.Fatalf("TimesIn %v: %v, %v", c, got, ok)
		}
		if fit, ok := impl.FitsAt(c, at+10080*(at%99)); !fit || !ok {
			t.Fatalf("FitsAt %v, %d: %v, %v", c, at, fit, ok)
		}
		if fit, ok := impl.FitsAt(c, at+1); fit || !ok {
			t.Fatalf("FitsAt %v, %d: %v, %v", c, at+1, fit, ok)
		}
		if got, ok := impl.ManyIn(c); got != 1 || !ok {
			t.Fatalf("ManyIn %v: %d, %v", c, got, ok)
		}
	}
}

func TestNextOfEachTime(t *testing.T) {
	crons := []impl.Cron{everyTime(), onceAWeek(moment{0, 0, 0}), onceAWeek(moment{59, 23, 6}), onceAWeek(moment{30, 12, 3})}
	for seed := range 8 {
		crons = append(crons, someCron(numbersFrom(uint64(12000+seed))))
	}
	for _, c := range crons {
		fits := fitsOfWeek(c)
		for _, from := range []int{0, 5 * impl.WeekMinutes, lastCronTime - impl.WeekMinutes} {
			last := nextTimeByWords(fits, from+impl.WeekMinutes)
			// Backward, so that what is next is known from the time behind.
			for at := from + impl.WeekMinutes; at >= from; at-- {
				if got, ok := impl.NextAfter(c, at); !ok || got != last {
					t.Fatalf("NextAfter %v, %d: %d, %v, not %d", c, at, got, ok, last)
				}
				holdFits(t, c, fits, at)
				if fits[at%impl.WeekMinutes] {
					last = at
				}
			}
		}
	}
}

func TestManyCrons(t *testing.T) {
	for seed := range 150 {
		next := numbersFrom(uint64(13000 + seed))
		c := someCron(next)
		holdCron(t, c)
		fits := fitsOfWeek(c)
		for range 100 {
			at := next(lastCronTime + 1)
			holdNext(t, c, fits, at)
			holdFits(t, c, fits, at)
			holdTimesIn(t, c, fits, at, min(at+next(20001), lastCronTime))
		}
	}
}

func TestNextTimesAreAllTimes(t *testing.T) {
	for seed := range 40 {
		next := numbersFrom(uint64(14000 + seed))
		c := someCron(next)
		from := 1 + next(lastCronTime-20000)
		want, ok := impl.TimesIn(c, from, from+20000)
		if !ok {
			t.Fatal(c, from)
		}
		var got []int
		at, _ := impl.NextAfter(c, from-1)
		for at < from+20000 {
			got = append(got, at)
			at, _ = impl.NextAfter(c, at)
		}
		if !slices.Equal(got, want) {
			t.Fatalf("%v from %d: %v, and one by one %v", c, from, want, got)
		}
	}
}

func TestNamedTimesIn(t *testing.T) {
	every := everyTime()
	half, _ := impl.ReadCron("0,30 0 0")
	for _, c := range []struct {
		cron     impl.Cron
		from, to int
		want     []int
	}{
		{half, 0, 0, nil}, {half, 0, 1, []int{0}}, {half, 0, 30, []int{0}}, {half, 0, 31, []int{0, 30}}, {half, 1, 30, nil}, {half, 30, 31, []int{30}}, {half, 31, 10080, nil},
		{half, 31, 10081, []int{10080}}, {half, 0, 20000, []int{0, 30, 10080, 10110}}, {half, 10110, 30110, []int{10110, 20160, 20190}}, {half, 1000000, 1000000, nil},
		{every, 5, 5, nil}, {every, 5, 6, []int{5}}, {every, 0, 3, []int{0, 1, 2}}, {every, 999998, 1000000, []int{999998, 999999}}, {every, 1000000, 1000000, nil},
	} {
		if got, ok := impl.TimesIn(c.cron, c.from, c.to); !ok || !slices.Equal(got, c.want) {
			t.Errorf("TimesIn %v, %d, %d: %v, %v", c.cron, c.from, c.to, got, ok)
		}
	}
	for _, from := range []int{0, 1, 500000, 980000} {
		if got, ok := impl.TimesIn(every, from, from+20000); !ok || len(got) != 20000 || got[0] != from || got[19999] != from+19999 {
			t.Errorf("TimesIn, 20000 from %d on: %d times, %v", from, len(got), ok)
		}
	}
}

func TestNamedCounts(t *testing.T) {
	for text, want := range map[string]int{
		"* * *": 10080, "0 0 0": 1, "59 23 6": 1, "*/20 8-9 1-5": 30, "* 0 0": 60, "0 * 0": 24, "0 0 *": 7, "1-59 1-23 1-6": 59 * 23 * 6,
	} {
		c, _ := impl.ReadCron(text)
		if got, ok := impl.ManyIn(c); !ok || got != want {
			t.Errorf("ManyIn %q: %d, %v", text, got, ok)
		}
	}
}

func TestTimesBeyondTheirBounds(t *testing.T) {
	for _, c := range []impl.Cron{everyTime(), onceAWeek(moment{0, 0, 0}), onceAWeek(moment{59, 23, 6}), onceAWeek(moment{40, 10, 1})} {
		for _, at := range []int{-1, -60, -1440, -10080, lastCronTime + 1, lastCronTime + 10080, math.MaxInt, math.MaxInt - 1, math.MinInt, math.MinInt + 1} {
			holdTimeRefused(t, c, at)
			holdSpanRefused(t, c, at, at)
			holdSpanRefused(t, c, at, at+1)
			holdSpanRefused(t, c, 0, at)
		}
		for _, row := range [][2]int{
			{0, 20001}, {1, 20002}, {979999, 1000000}, {500000, 520001}, {1, 0}, {0, -1}, {5000, 4999}, {1000000, 999999}, {1000000, 0}, {-1, 0}, {-1, 5}, {-20000, 0},
			{1000000, 1000001}, {999999, 1000001}, {990000, 1000001}, {980001, 1000001}, {1000001, 1000001}, {1000001, 1000000}, {1000001, 1000002},
			{0, math.MaxInt}, {0, math.MinInt}, {math.MaxInt, 0}, {math.MinInt, 0}, {math.MinInt, math.MaxInt}, {math.MaxInt, math.MinInt}, {math.MinInt, math.MinInt}, {math.MaxInt, math.MaxInt},
			{math.MaxInt - 19999, math.MinInt}, {1000000, math.MaxInt}, {1000000, math.MinInt}, {math.MinInt, math.MinInt + 20000}, {math.MaxInt - 20000, math.MaxInt},
		} {
			holdSpanRefused(t, c, row[0], row[1])
		}
	}
}

// wrongNumbers are lists that no field has; the last number beyond the bound is not among them.
var wrongNumbers = [][]int{
	nil, {}, {-1}, {-1, 0}, {0, -1}, {0, 0}, {1, 1}, {1, 0}, {3, 2}, {0, 2, 1}, {0, 2, 2}, {1, 2, 3, 3}, {5, 4, 3, 2, 1, 0}, {60}, {0, 60}, {0, 1000}, {math.MaxInt}, {math.MinInt}, {0, math.MaxInt},
	{math.MinInt, 0}, {math.MinInt, math.MaxInt}, {math.MaxInt, math.MinInt}, {0, math.MaxInt, math.MinInt}, {1, math.MinInt}, {math.MaxInt, 0}, {math.MaxInt, math.MaxInt},
}

// badCrons are crons one of whose lists is not as said.
func badCrons() []impl.Cron {
	l := []impl.Cron{{}, {Minutes: []int{0}}, {Hours: []int{0}}, {Days: []int{0}}}
	for i, size := range cronSizes {
		wrong := append(slices.Clone(wrongNumbers), []int{size}, []int{0, size}, numbersBelow(size+1), append(numbersBelow(size), size-1), append(numbersBelow(size), 0), numbersBelow(3000))
		for _, numbers := range wrong {
			for _, good := range []impl.Cron{everyTime(), onceAWeek(moment{0, 0, 0}), onceAWeek(moment{59, 23, 6})} {
				fields := fieldsOf(good)
				fields[i] = numbers
				l = append(l, cronOf(fields))
			}
		}
	}
	return l
}

func TestBadCrons(t *testing.T) {
	for _, c := range badCrons() {
		holdCronRefused(t, c)
	}
}

func TestEachFewNumbers(t *testing.T) {
	numbers := []int{math.MinInt, -1, 0, 1, 6, 7, 23, 24, 59, 60, math.MaxInt}
	for _, a := range numbers {
		for _, b := range numbers {
			for i := range cronSizes {
				for _, l := range [][]int{{a}, {a, b}} {
					fields := [][]int{{0}, {0}, {0}}
					fields[i] = l
					if c := cronOf(fields); goodCronByWords(c) {
						holdCronText(t, c)
					} else {
						holdCronRefused(t, c)
					}
				}
			}
		}
	}
}
