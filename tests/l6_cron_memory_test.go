package tests

import (
	"slices"
	"testing"

	"loop.example/g00269/impl"
)

// cronBehind lays wrong numbers behind each list of a cron.
func cronBehind(c impl.Cron) impl.Cron {
	return cronOf([][]int{behind(c.Minutes), behind(c.Hours), behind(c.Days)})
}

// wholeCron copies all that lies in the memory of a cron, up to each capacity.
func wholeCron(c impl.Cron) [][]int {
	var whole [][]int
	for _, l := range fieldsOf(c) {
		whole = append(whole, slices.Clone(l[:cap(l)]))
	}
	return whole
}

// cronAnswers asks all functions that take a cron; what they tell in numbers stands behind the lists.
func cronAnswers(c impl.Cron, at int) ([][]int, string) {
	bit := func(is bool) int {
		if is {
			return 1
		}
		return 0
	}
	none, okNone := impl.TimesIn(c, at, at)
	some, okSome := impl.TimesIn(c, at, at+3000)
	many, okMany := impl.ManyIn(c)
	next, okNext := impl.NextAfter(c, at)
	fits, okFits := impl.FitsAt(c, at)
	text, okText := impl.CronText(c)
	told := []int{bit(impl.GoodCron(c)), bit(okNone), bit(okSome), many, bit(okMany), next, bit(okNext), bit(fits), bit(okFits), bit(okText)}
	return [][]int{none, some, told}, text
}

func holdCronMemory(t *testing.T, c impl.Cron, at int) {
	t.Helper()
	want, wantText := cronAnswers(c, at)
	laid := cronBehind(c)
	kept := wholeCron(laid)
	for range 2 {
		got, text := cronAnswers(laid, at)
		if !sameLists(got, want) || text != wantText {
			t.Fatalf("%v: what lies behind a list is read, or an answer was kept", c)
		}
		for i := range got {
			fillVec(got[i], -5)
		}
		if !sameLists(wholeCron(laid), kept) {
			t.Fatalf("the cron %v, or what lies behind it, is written into", c)
		}
	}
}

func TestCronsAreLeftAlone(t *testing.T) {
	for seed := range 200 {
		next := numbersFrom(uint64(15000 + seed))
		holdCronMemory(t, someCron(next), next(lastCronTime+1))
	}
	for _, c := range []impl.Cron{everyTime(), onceAWeek(moment{0, 0, 0}), onceAWeek(moment{59, 23, 6})} {
		for _, at := range []int{-1, 0, lastCronTime - 3000, lastCronTime, lastCronTime + 1} {
			holdCronMemory(t, c, at)
		}
	}
}

func TestBadCronsAreLeftAlone(t *testing.T) {
	for _, c := range badCrons() {
		holdCronMemory(t, c, 5000)
	}
}

func TestNumbersBehindTheList(t *testing.T) {
	all := numbersBelow(60)
	c := impl.Cron{Minutes: all[:0], Hours: all[:1], Days: all[:1]}
	if impl.GoodCron(c) {
		t.Error("numbers behind an empty list are read")
	}
	// All three lists in one memory: what is behind one is another's.
	c = impl.Cron{Minutes: all[:59], Hours: all[:23], Days: all[:6]}
	if fits, ok := impl.FitsAt(c, 59); fits || !ok {
		t.Error("a number behind the minutes is read")
	}
	if text, ok := impl.CronText(c); !ok || text != cronTextByWords(c) {
		t.Error(text, ok)
	}
	holdCron(t, c)
	if !slices.Equal(all, numbersBelow(60)) {
		t.Error("a list is written into:", all)
	}
}

func TestReadCronSharesNoMemory(t *testing.T) {
	texts := []string{"* * *", "0 0 0", "59 23 6", "*/20 8-9 1-5", "1,2,3 1,2,3 1,2,3", "1-6 1-6 1-6", "5/9 5/9 5/9"}
	for seed := range 500 {
		texts = append(texts, someCronText(numbersFrom(uint64(16000+seed))))
	}
	for _, s := range texts {
		want, wantOk := readByWords(s)
		other, _ := impl.ReadCron(s)
		for range 2 {
			got, ok := impl.ReadCron(s)
			if ok != wantOk || !sameCrons(got, want) {
				t.Fatalf("ReadCron %q: an answer that was written into is told again: %v", s, got)
			}
			for i, l := range fieldsOf(got) {
				if ok && !slices.Equal(l, fieldsOf(want)[i]) {
					t.Fatalf("ReadCron %q: list %d shares memory with one ahead of it", s, i)
				}
				fillVec(l, -5)
			}
		}
		if !sameCrons(other, want) {
			t.Fatalf("ReadCron %q: two answers share memory", s)
		}
	}
}

func TestTimesInSharesNoMemory(t *testing.T) {
	c := everyTime()
	first, _ := impl.TimesIn(c, 100, 300)
	second, _ := impl.TimesIn(c, 100, 300)
	fillVec(first, -5)
	if third, _ := impl.TimesIn(c, 100, 300); !slices.Equal(second, third) || second[0] != 100 {
		t.Error("two answers share their list, or one is told again")
	}
	if !sameCrons(c, everyTime()) {
		t.Error("an answer shares memory with the cron")
	}
}
