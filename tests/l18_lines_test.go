package tests

import (
	"slices"
	"strconv"
	"strings"
	"sync"
	"testing"

	"loop.example/g00269/impl"
)

// holdScript holds what is told of a text by the words, also where it is no script; it tells the answers.
func holdScript(t *testing.T, text string) []string {
	t.Helper()
	lines, ok := linesByWords(text)
	if !ok {
		holdNoScript(t, text)
		return nil
	}
	answers, s := playLines(lines)
	if got := impl.RunWorld(text); got != scriptOf(answers...) {
		t.Fatalf("RunWorld %q: %q, not %q", text, got, answers)
	}
	world, wheel, ok := impl.WorldOf(text)
	if !ok || !sameWorlds(world, s.world) || !sameWheels(wheel, s.wheel) {
		t.Fatalf("WorldOf %q: %v, %v, %v, not %v", text, world, wheel, ok, s)
	}
	if !impl.GoodWorld(world) || !impl.GoodWheel(wheel) {
		t.Fatalf("WorldOf %q: %v or %v is not good", text, world, wheel)
	}
	return answers
}

// holdNoScript holds the zero answers.
func holdNoScript(t *testing.T, text string) {
	t.Helper()
	if got := impl.RunWorld(text); got != "" {
		t.Fatalf("RunWorld %q: %q", text, got)
	}
	if world, wheel, ok := impl.WorldOf(text); ok || !isZeroWorld(world) || !isZeroWheel(wheel) {
		t.Fatalf("WorldOf %q: %v, %v, %v", text, world, wheel, ok)
	}
}

// holdAnswers holds the answers of lines as they are written out.
func holdAnswers(t *testing.T, lines []string, want ...string) {
	t.Helper()
	if got := holdScript(t, scriptOf(lines...)); !slices.Equal(got, want) {
		t.Errorf("%q: %q, not %q", lines, got, want)
	}
}

// holdLastAnswer holds the answer of the last line.
func holdLastAnswer(t *testing.T, lines []string, want string) {
	t.Helper()
	if got := holdScript(t, scriptOf(lines...)); len(got) != len(lines) || got[len(got)-1] != want {
		t.Errorf("%q: %q, not %q", lines, got, want)
	}
}

// holdDoesNothing holds that a line that is put between other lines has one answer, and changes no other one and nothing that they make.
func holdDoesNothing(t *testing.T, ahead []string, l string, behind []string, want string) {
	t.Helper()
	holdLastAnswer(t, slices.Concat(ahead, []string{l}), want)
	without, with := slices.Concat(ahead, behind), slices.Concat(ahead, []string{l}, behind)
	answers := holdScript(t, scriptOf(without...))
	answers = slices.Insert(answers, len(ahead), want)
	if got := impl.RunWorld(scriptOf(with...)); got != scriptOf(answers...) {
		t.Fatalf("RunWorld %q: %q, not %q", with, got, answers)
	}
	world, wheel, _ := impl.WorldOf(scriptOf(without...))
	if also, too, ok := impl.WorldOf(scriptOf(with...)); !ok || !sameWorlds(world, also) || !sameWheels(wheel, too) {
		t.Fatalf("WorldOf %q: %v, %v, %v", with, also, too, ok)
	}
}

// holdFollows holds promise 18: the lines up to each answer have the answers that they have in the whole, and up to an answer and with other lines behind it, too.
func holdFollows(t *testing.T, text string, others ...string) {
	t.Helper()
	lines := strings.SplitAfter(text, "\n")
	answers := strings.SplitAfter(impl.RunWorld(text), "\n")
	if len(lines) != len(answers) {
		t.Fatalf("%q: %d lines, %d answers", text, len(lines)-1, len(answers)-1)
	}
	for count := range lines {
		first, want := strings.Join(lines[:count], ""), strings.Join(answers[:count], "")
		if got := impl.RunWorld(first); got != want {
			t.Fatalf("RunWorld %q: %q, not %q", first, got, want)
		}
		for _, other := range others {
			if got := impl.RunWorld(first + other); len(first+other) <= 2500 && count+strings.Count(other, "\n") <= 80 && !strings.HasPrefix(got, want) {
				t.Fatalf("RunWorld %q: %q does not begin with %q", first+other, got, want)
			}
		}
	}
}

// begun are lines behind which both know the start.
var begun = []string{"call 0 1 ", "say 0", "hear 0"}

// parted are lines behind which both lead, and each has called for a signal of its own; 0 has heard of the one of 1.
var parted = slices.Concat(begun, []string{"lead 1", "call 0 2 a", "call 1 2 b", "say 1", "say 0", "hear 0"})

// repeated tells lines, one of them so many times at the end.
func repeated(lines []string, l string, count int) []string {
	return slices.Concat(lines, slices.Repeat([]string{l}, count))
}

func TestNumbersOfScripts(t *testing.T) {
	if impl.MaxScript != 2500 || impl.MaxLines != 80 {
		t.Error(impl.MaxScript, impl.MaxLines)
	}
}

func TestNamedScripts(t *testing.T) {
	holdAnswers(t, []string{
		"call 0 1 ", "say 0", "hear 0", "call 1 2 x", "lead 1", "call 0 2 a", "call 1 2 b", "branches 0", "settle", "state 0", "leaders",
		"timer 9 1", "tick 9", "next 100 */15 8-17 1-5", "form (a&!b)", "wait 2 3 100 4", "fly",
	}, "ok", "ok", "ok", "no 2", "ok", "ok", "ok", "branches 2@0", "rounds 3", "state 1 4 b a", "leaders 1", "ok", "due 1", "at 1920", "choices 2 16", "wait 54", "what")
	holdAnswers(t, []string{"leaders", "state 0", "state 1", "branches 0", "branches 1", "settle", "tick 0"},
		"leaders 0", "state 0 1", "state 0 1", "branches", "branches", "rounds 1", "due")
	holdAnswers(t, slices.Concat(parted, []string{"leaders", "branches 0", "branches 1", "reapply 0", "hear 0", "branches 1", "state 1", "reapply 1", "reapply 1", "branches 1", "state 1"}),
		"ok", "ok", "ok", "ok", "ok", "ok", "ok", "ok", "ok",
		"leaders 1", "branches 2@0 2@1", "branches 2@1", "no 1", "ok", "branches 2@0 2@1", "state 1 3 b", "ok", "no 1", "branches 2@0 3@1", "state 1 4 b a")
	// What is said stays what it was; it is lost, heard and doubled by its place.
	holdAnswers(t, slices.Concat(begun, []string{"say 0", "call 0 6 ", "say 0", "state 0", "twice 1", "lose 0", "hear 0", "state 1", "hear 0", "hear 0", "lose 0", "twice 0"}),
		"ok", "ok", "ok", "ok", "ok", "ok", "state 2 3", "ok", "ok", "ok", "state 2 3", "ok", "no 1", "no 1", "no 1")
}

// Lines that have just one answer where nothing has come yet.
func TestNamedLines(t *testing.T) {
	for l, want := range map[string]string{
		"call 0 1 ": "ok", "call 0 1 go": "ok", "call 0 1 " + longestName: "ok", "call 0 2 a": "no 3", "call 1 1 ": "no 2", "call 1 2 ": "no 2",
		"call 0 0 ": "no 1", "call 0 7 ": "no 1", "call 0 1 A": "no 1", "call 0 1 " + longestName + "a": "no 1", "call 2 1 ": "no 1", "call 999999999 1 ": "no 1", "call 0 999999999 ": "no 1",
		"lead 0": "ok", "lead 1": "ok", "lead 2": "no 1", "lead 9": "no 1", "lead 10": "no 1", "lead 999999999": "no 1",
		"say 0": "ok", "say 1": "ok", "say 2": "no 1", "reapply 0": "no 1", "reapply 1": "no 1", "reapply 2": "no 1",
		"hear 0": "no 1", "lose 0": "no 1", "twice 0": "no 1", "hear 999999999": "no 1", "lose 20": "no 1", "twice 1": "no 1",
		"settle": "rounds 1", "state 0": "state 0 1", "state 1": "state 0 1", "state 2": "no 1", "state 999999999": "no 1", "branches 0": "branches", "branches 2": "no 1", "branches 10": "no 1", "leaders": "leaders 0",
		"timer 1 0": "ok", "timer 511 1000": "ok", "timer 0 0": "no", "timer 512 0": "no", "timer 1 1001": "no", "timer 999999999 1": "no", "timer 1 999999999": "no",
		"tick 0": "due", "tick 1": "due", "tick 1000": "due", "tick 1001": "no", "tick 100000": "no", "tick 999999999": "no",
		"next 0 * * *": "at 1", "next 0 0 0 0": "at 10080", "next 100 */15 8-17 1-5": "at 1920", "next 1000000 * * *": "at 1000001", "next 999999 59 23 6": "at 1007999", "next 1000001 * * *": "no", "next 999999999 * * *": "no",
		"next 0 ": "no", "next 0 * *": "no", "next 0 * * * ": "no", "next 0  * * *": "no", "next 0 60 * *": "no", "next 0 * * 7": "no", "next 0 *": "no",
		"form 0": "choices 0 0", "form 1": "choices 0 64", "form a": "choices 1 32", "form (a^b)": "choices 3 32", "form ((a|b)&c)": "choices 3 24", "form !(e&f)": "choices 2 48",
		"form ": "no", "form g": "no", "form a ": "no", "form  a": "no", "form (a & b)": "no", "form a&b": "no", "form " + strings.Repeat("!", 59) + "a": "choices 1 32", "form " + strings.Repeat("!", 60) + "a": "no",
		"wait 2 3 100 1": "wait 2", "wait 2 3 100 4": "wait 54", "wait 2 3 100 5": "wait 100", "wait 1000 10 1000000 40": "wait 1000000", "wait 1 1 1 1": "wait 1", "wait 1000 10 1000 2": "wait 1000",
		"wait 0 3 100 1": "no", "wait 1001 3 2000 1": "no", "wait 2 0 100 1": "no", "wait 2 11 100 1": "no", "wait 2 3 1 1": "no", "wait 2 3 1000001 1": "no", "wait 2 3 100 0": "no", "wait 2 3 100 41": "no", "wait 999999999 3 999999999 1": "no",
		"fly": "what", "what": "what", "ok": "what", "no": "what", "no 1": "what", "": "what",
	} {
		holdAnswers(t, []string{l}, want)
	}
}

func TestCodesOfLines(t *testing.T) {
	full := repeated(begun[:1], "call 0 3 ", 59)
	for _, c := range []struct {
		lines []string
		want  string
	}{
		{append(slices.Clone(begun), "call 0 2 a"), "ok"}, {append(slices.Clone(begun), "call 0 8 a"), "no 1"}, {append(slices.Clone(begun), "call 0 2 a b"), "no 1"}, {append(slices.Clone(begun), "call 3 2 a"), "no 1"},
		{append(slices.Clone(begun), "call 1 2 a"), "no 2"}, {append(slices.Clone(begun), "lead 1", "say 1", "hear 0", "call 0 2 a"), "no 2"}, {append(slices.Clone(begun), "lead 1", "call 1 2 a"), "ok"},
		{append(slices.Clone(begun), "call 0 1 "), "no 3"}, {append(slices.Clone(begun), "call 0 6 ", "call 0 2 a"), "no 3"}, {append(slices.Clone(begun), "call 0 5 ", "call 0 5 "), "no 3"}, {full[:60], "ok"},
		{append(slices.Clone(full), "call 0 2 a"), "no 4"}, {append(slices.Clone(full), "call 0 6 "), "no 4"}, {append(slices.Clone(full), "call 0 1 "), "no 3"}, {append(slices.Clone(full), "state 0"), "state 1 61"}, {append(slices.Clone(full), "branches 0"), "branches 60@0"},
		{append(slices.Clone(begun), "call 0 2 a", "call 0 2 a"), "no 5"}, {append(slices.Clone(begun), "call 0 2 ", "call 0 2 "), "no 5"}, {append(slices.Clone(begun), "call 0 2 a", "call 0 6 ", "call 0 2 a"), "no 5"}, {append(slices.Clone(begun), "call 0 4 a", "call 0 4 a"), "ok"},
		// The line of words is full.
		{repeated(begun, "say 0", 20), "ok"}, {repeated(begun, "say 0", 21), "no 1"}, {repeated(begun, "say 1", 21), "no 1"}, {append(repeated(begun, "say 0", 20), "twice 0"), "no 1"}, {append(repeated(begun, "say 0", 19), "twice 18"), "ok"}, {append(repeated(begun, "say 0", 20), "lose 19", "twice 18"), "ok"},
		{append(repeated(begun, "say 0", 20), "hear 19"), "ok"}, {append(repeated(begun, "say 0", 20), "hear 20"), "no 1"}, {append(repeated(begun, "say 0", 20), "lose 20"), "no 1"}, {append(repeated(begun, "say 0", 20), "settle", "hear 0"), "no 1"},
		{append(slices.Clone(begun), "say 0", "twice 0", "hear 1"), "ok"}, {append(slices.Clone(begun), "say 0", "twice 1"), "no 1"},
		// None leads, one, the other one, and both.
		{append(slices.Clone(begun), "leaders"), "leaders 0"}, {append(slices.Clone(begun), "lead 1", "leaders"), "leaders 0 1"}, {append(slices.Clone(begun), "lead 1", "say 1", "hear 0", "leaders"), "leaders 1"}, {append(slices.Clone(parted), "leaders"), "leaders 1"},
		{append(slices.Clone(begun), "lead 0", "lead 1", "lead 1", "say 0", "say 1", "hear 0", "hear 0", "leaders"), "leaders 1"}, {append(slices.Clone(begun), "lead 1", "lead 0", "say 0", "say 1", "hear 1", "hear 0", "leaders"), "leaders 0"}, {[]string{"lead 1", "say 1", "lead 0", "say 0", "hear 1", "hear 0", "leaders"}, "leaders 0"},
		// Names of signals are told in the order in which they came; one has no bytes.
		{append(slices.Clone(begun), "call 0 2 b", "call 0 2 ", "call 0 3 c", "call 0 2 a", "state 0"), "state 1 6 b  a"}, {append(slices.Clone(begun), "call 0 2 ", "state 0"), "state 1 3 "}, {append(slices.Clone(begun), "call 0 2 b", "call 0 6 ", "state 0"), "state 2 4 b"},
		{append(slices.Clone(begun), "call 0 2 b", "state 1"), "state 1 2"},
		// Rounds: nothing new, something new, something that was lost.
		{append(slices.Clone(begun), "settle"), "rounds 1"}, {append(slices.Clone(begun), "call 0 2 a", "settle"), "rounds 2"}, {append(slices.Clone(parted), "settle"), "rounds 3"}, {append(slices.Clone(parted), "settle", "settle"), "rounds 1"}, {append(slices.Clone(begun), "say 0", "settle", "lose 0"), "no 1"},
	} {
		holdLastAnswer(t, c.lines, c.want)
	}
}

// partAgain are lines behind which each of two regions that had the same tellings has its own event behind the current history; told tells each of them to the other one, too.
func partAgain(number int, told bool) []string {
	var l []string
	for _, s := range apartAgain(number, told) {
		l = append(l, stepLine(s))
	}
	return l
}

// Just so many lines part two regions into as many branches as may be, and into one more, where each tells the other one only what is new to it.
func TestLinesThatComeToTooManyBranches(t *testing.T) {
	lines := slices.Clone(begun)
	for number := range 12 {
		// The one that is to lead hears all of the other one first, so both go on behind the same history.
		if is := (number + 1) % 2; number > 0 {
			lines = append(lines, "say "+strconv.Itoa(1-is), "hear 0")
		}
		lines = append(lines, partAgain(number, false)...)
	}
	holdScript(t, scriptOf(lines...))
	if len(lines) != 61 {
		t.Fatal(len(lines))
	}
	last := holdScript(t, scriptOf(append(slices.Clone(lines), "branches 0", "branches 1")...))[61:]
	if count := strings.Count(last[0], "@") + strings.Count(last[1], "@"); count < 23 {
		t.Fatal(last)
	}
	// The words of both are too many for the other one; where one can't be heard it has left the line all the same.
	holdLastAnswer(t, append(slices.Clone(lines), "settle"), "no")
	holdDoesNothing(t, lines, "settle", []string{"branches 0", "branches 1", "say 0", "hear 0", "leaders"}, "no")
	for region := range 2 {
		say := "say " + strconv.Itoa(region)
		holdLastAnswer(t, append(slices.Clone(lines), say, "hear 0"), "no 2")
		holdLastAnswer(t, append(slices.Clone(lines), say, "hear 0", "hear 0"), "no 1")
		holdLastAnswer(t, append(slices.Clone(lines), say, "twice 0", "hear 1", "hear 0"), "no 2")
		holdLastAnswer(t, append(slices.Clone(lines), say, "settle", "lose 0"), "ok")
	}
	holdFollows(t, scriptOf(append(slices.Clone(lines), "say 0", "settle", "hear 0", "settle", "branches 0", "lose 0")...))
}

func TestWheelsOfLines(t *testing.T) {
	var many []string
	for id := range 60 {
		many = append(many, "timer"+numbersBehind([]int{1 + 8*id, 1000 - id}))
	}
	for _, c := range []struct {
		lines []string
		want  string
	}{
		{[]string{"timer 9 1", "tick 8"}, "due"}, {[]string{"timer 9 1", "tick 9"}, "due 1"}, {[]string{"timer 9 1", "tick 9", "tick 9"}, "due"}, {[]string{"timer 9 1", "tick 8", "tick 0", "tick 1"}, "due 1"},
		{[]string{"timer 9 3", "timer 8 7", "timer 9 1", "timer 100 2", "tick 1000"}, "due 7 1 3 2"}, {[]string{"timer 511 0", "tick 510", "tick 1"}, "due 0"},
		// An Id is new again when its timer was due; a time is told as itself, not as how far it is.
		{[]string{"timer 9 1", "timer 8 1"}, "no"}, {[]string{"timer 9 1", "tick 9", "timer 10 1"}, "ok"}, {[]string{"tick 10", "timer 10 1"}, "no"}, {[]string{"tick 10", "timer 9 1"}, "no"}, {[]string{"tick 10", "timer 511 1", "tick 501"}, "due 1"}, {[]string{"tick 10", "timer 512 1"}, "no"},
		{many, "ok"}, {append(slices.Clone(many), "timer 1 0"), "no"}, {append(slices.Clone(many), "tick 1", "timer 2 0"), "ok"},
		// There is no slot that reaches so far.
		{[]string{"tick 1", "timer 512 1"}, "no"}, {[]string{"tick 1", "timer 511 1"}, "ok"},
		{[]string{"timer 9 1", "tick 1001", "tick 9"}, "due 1"}, {repeated([]string{"timer 500 1"}, "tick 1000", 78), "due"}, {append(repeated(nil, "tick 1000", 79), "timer 79001 5"), "ok"},
		// At 78000 units of 64 are 1218, and the slots reach up to 1225.
		{append(repeated(nil, "tick 1000", 78), "timer 78464 5"), "no"}, {append(repeated(nil, "tick 1000", 78), "timer 78463 5"), "ok"}, {append(repeated(nil, "tick 1000", 78), "timer 78463 5", "tick 1000"), "due 5"},
	} {
		holdLastAnswer(t, c.lines, c.want)
	}
	all := append(slices.Clone(many), "tick 500")
	answers := holdScript(t, scriptOf(all...))
	if strings.Count(answers[60], " ") != 60 || !strings.HasPrefix(answers[60], "due 1000 999 998 ") {
		t.Error(answers[60])
	}
	for count := range all {
		world, wheel, ok := impl.WorldOf(scriptOf(all[:count]...))
		timers, good := impl.TimersIn(wheel)
		if !ok || !good || len(timers) != count || !sameWorlds(world, newWorldByWords()) {
			t.Errorf("%d timers: %v, %v, %v", count, world, wheel, ok)
		}
	}
}

// Good lines, one of each kind, that can be done behind parted, and what they are when their words are parted.
func goodLines() []string {
	return []string{
		"call 0 6 x", "call 1 2 new", "call 1 3 ", "lead 0", "lead 1", "say 0", "say 1", "hear 0", "lose 0", "twice 0", "reapply 1", "settle", "state 0", "state 1", "branches 0", "branches 1", "leaders",
		"timer 9 1", "timer 70 0", "tick 9", "tick 0", "next 100 */15 8-17 1-5", "form (a&!b)", "wait 2 3 100 4",
	}
}

// holdIsNone holds that a line is of none of the kinds.
func holdIsNone(t *testing.T, l string) {
	t.Helper()
	holdAnswers(t, []string{l}, "what")
	holdDoesNothing(t, parted, l, []string{"leaders", "branches 0", "state 1", "settle", "tick 5"}, "what")
}

// Each kind of line with a word too few and one too many, with blanks where none belongs, and with its name in other letters.
func TestLinesOfOtherWords(t *testing.T) {
	for _, l := range goodLines() {
		words := strings.Split(l, " ")
		name := words[0]
		holdIsNone(t, " "+l)
		holdIsNone(t, strings.ToUpper(name)+l[len(name):])
		holdIsNone(t, strings.ToUpper(name[:1])+l[1:])
		for _, other := range []string{name[1:], name[:len(name)-1], name + "s", name + "\x00", "\x00" + name, name + "\t", "\t" + name, name + ".", "é" + name, name + "é", "\xff" + name} {
			if other != "lead" {
				holdIsNone(t, other+l[len(name):])
			}
		}
		if len(words) > 1 {
			holdIsNone(t, name)
			holdIsNone(t, name+"\t"+l[len(name)+1:])
			holdIsNone(t, name+"\u00a0"+l[len(name)+1:])
			holdIsNone(t, name+l[len(name)+1:])
		}
		if name == "call" || name == "next" || name == "form" {
			// A text may have all that another line may not; a word too few leaves it without the blank ahead of it.
			if name != "form" {
				holdIsNone(t, name+" ")
				holdIsNone(t, name+" 0")
				holdIsNone(t, name+"  "+l[len(name)+1:])
			}
			continue
		}
		holdIsNone(t, l+" ")
		holdIsNone(t, l+" 0")
		holdIsNone(t, l+" x")
		holdIsNone(t, l+"\r")
		holdIsNone(t, l+"\x00")
		if at := strings.LastIndex(l, " "); at > 0 {
			holdIsNone(t, l[:at])
			holdIsNone(t, l[:at+1])
			holdIsNone(t, l[:at]+" "+l[at:])
		}
	}
	for _, l := range []string{"call 0", "call 0 ", "call 0 1", "call 01 ", "next 5", "next", "next ", "form", "wait 1 1 1", "wait 1 1 1 1 1", "timer 1", "timer 1 1 1"} {
		holdIsNone(t, l)
	}
	for _, l := range []string{"", " ", "  ", "\r", "\x00", "0", "1", "7", "-", "é", "\xff", "none", "what", "call", "SETTLE", "settle.", "set", strings.Repeat("a", 1000), strings.Repeat(" ", 1000), "settle settle", "tick 1 tick 1"} {
		holdIsNone(t, l)
	}
}

// Each number of each kind of line in forms that no number has.
func TestNumbersThatLinesDoNotTake(t *testing.T) {
	none := []string{
		"", "-1", "+1", "-0", "+0", "00", "01", "007", "0000000001", "1000000000", "9999999999", "12345678901234567890", strings.Repeat("1", 100), "1.", "1.0", "1,000", "0x1", "1_0", "1e1", "a", "O", "one",
		"\t1", "1\t", "1\r", "1\x00", "\x001", "١", "１", "1é", "é", "\xff", "1\xff", "½", "²", "/", ":", "'1'",
	}
	for _, l := range goodLines() {
		words := strings.Split(l, " ")
		for place, word := range words[1:] {
			if _, err := strconv.Atoi(word); err != nil || words[0] == "call" && place > 1 || words[0] == "form" || words[0] == "next" && place > 0 {
				continue
			}
			for _, no := range none {
				other := slices.Clone(words)
				other[place+1] = no
				holdIsNone(t, strings.Join(other, " "))
			}
			for _, number := range []string{"0", "1", "9", "10", "99", "100", "999", "1000", "12345", "999999", "1000000", "12345678", "99999999", "100000000", "123456789", "999999999"} {
				other := slices.Clone(words)
				other[place+1] = number
				script := append(slices.Clone(parted), strings.Join(other, " "), "branches 0", "branches 1", "tick 1", "leaders")
				if answers := holdScript(t, scriptOf(script...)); answers[len(parted)] == "what" {
					t.Errorf("%q is not taken", other)
				}
			}
		}
	}
}

func TestTextsOfLines(t *testing.T) {
	// A name that is none, though the blank stands where it is to stand.
	for _, name := range append([]string{" ", "  a", "a b", " a", "a "}, noNames...) {
		if strings.Contains(name, "\n") {
			continue
		}
		holdDoesNothing(t, parted, "call 1 2 "+name, []string{"branches 1", "state 1", "settle"}, "no 1")
		holdDoesNothing(t, parted, "next 5 "+name, []string{"leaders"}, "no")
		holdDoesNothing(t, parted, "form "+name, []string{"leaders"}, map[bool]string{false: "no", true: holdScript(t, scriptOf("form "+name))[0]}[impl.GoodForm(name)])
	}
	for name, state := range map[string]string{"": "state 1 4 b ", "a": "state 1 4 b a", "0": "state 1 4 b 0", "settle": "state 1 4 b settle", longestName: "state 1 4 b " + longestName} {
		holdAnswers(t, append(slices.Clone(parted), "call 1 2 "+name, "state 1"), append(repeated(nil, "ok", 10), state)...)
	}
	holdDoesNothing(t, parted, "call 1 2 b", []string{"state 1"}, "no 5")
	// No byte is taken for another one.
	for c := range 256 {
		text := string([]byte{byte(c)})
		if text == "\n" {
			continue
		}
		for _, l := range []string{"call 0 1 " + text, "next 0 " + text, "form " + text, "next 0 *" + text + "* *", "form !" + text, "settle" + text, text + "settle", "tick " + text, "tick 1" + text, "state" + text + "0", text, "hear" + text + text + "0"} {
			holdScript(t, scriptOf(l, "state 0"))
		}
	}
}

// So many bytes and lines as may be, and one more, and a last line that has no byte 10 behind it.
func TestScriptsUpToTheLimits(t *testing.T) {
	if impl.RunWorld("") != "" {
		t.Errorf("%q", impl.RunWorld(""))
	}
	if world, wheel, ok := impl.WorldOf(""); !ok || !sameWorlds(world, newWorldByWords()) || !sameWheels(wheel, emptyWheel(0)) {
		t.Error(world, wheel, ok)
	}
	for _, count := range []int{1, 2, 79, 80} {
		for _, l := range []string{"", "tick 1", "leaders", "call 0 1 ", "say 0"} {
			if answers := holdScript(t, strings.Repeat(l+"\n", count)); len(answers) != count {
				t.Errorf("%d lines: %q", count, answers)
			}
		}
	}
	for _, count := range []int{81, 82, 160, 1000, 2500} {
		holdNoScript(t, strings.Repeat("\n", count))
	}
	holdNoScript(t, strings.Repeat("tick 1\n", 81))
	holdNoScript(t, scriptOf(parted...)+strings.Repeat("\n", 81-len(parted)))
	for _, size := range []int{1, 2, 100, 2499, 2500} {
		long := strings.Repeat("x", size-1) + "\n"
		if answers := holdScript(t, long); !slices.Equal(answers, []string{"what"}) {
			t.Errorf("%d bytes: %q", size, answers)
		}
		holdNoScript(t, long+strings.Repeat("\n", 2501-size))
		holdNoScript(t, strings.Repeat("x", size))
	}
	for _, size := range []int{2501, 2502, 5000, 100000} {
		holdNoScript(t, strings.Repeat("x", size-1)+"\n")
		holdNoScript(t, strings.Repeat("x", size))
		holdNoScript(t, scriptOf(parted...)+strings.Repeat("x", size-len(scriptOf(parted...))-1)+"\n")
	}
	// As many bytes in as many lines, all of which are done.
	longest := scriptOf(parted...) + strings.Repeat("state 1\n", 70)
	longest += "form " + strings.Repeat("!", 2500-len(longest)-7) + "a\n"
	if answers := holdScript(t, longest); len(longest) != 2500 || len(answers) != 80 || answers[79] != "no" {
		t.Errorf("%d bytes: %q", len(longest), answers)
	}
	holdNoScript(t, longest+"\n")
	holdNoScript(t, longest[1:]+"\n")
}

// A text that does not end with a byte 10 is no script, wherever it is cut.
func TestScriptsThatAreCut(t *testing.T) {
	whole := scriptOf(slices.Concat(parted, []string{"", "settle", "state 0", "timer 9 1", "tick 9", "form (a&!b)", "what", ""})...)
	scripts := 0
	for size := range len(whole) + 1 {
		if size == 0 || whole[size-1] == '\n' {
			scripts++
			holdScript(t, whole[:size])
			holdNoScript(t, whole[:size]+"x")
			holdNoScript(t, whole[:size]+" ")
			holdNoScript(t, whole[:size]+"settle")
			holdNoScript(t, whole[:size]+"\r")
		} else {
			holdNoScript(t, whole[:size])
		}
	}
	if scripts != len(parted)+9 {
		t.Error(scripts)
	}
	// Only a byte 10 ends a line.
	for _, other := range []string{"\r", "\r\n", "\x00", "\v", "\f", "\u0085", "\u2028", "\n\r", "\x8a", "\xc0\x8a"} {
		holdScript(t, strings.ReplaceAll(whole, "\n", other))
		holdScript(t, strings.Replace(whole, "\n", other, 1))
	}
}

func TestWorldsThatScriptsMake(t *testing.T) {
	a, b := historyOf(0, impl.EvStart, "", 0, impl.EvSignal, "a"), historyOf(0, impl.EvStart, "", 1, impl.EvSignal, "b")
	world, wheel, ok := impl.WorldOf(scriptOf(append(slices.Clone(parted), "timer 9 1", "timer 100 7", "tick 20", "timer 25 2", "fly")...))
	if want := worldOf(regionOf(0, 1, a, b), regionOf(1, 1, b), saidTo(1, 0, a)); !ok || !sameWorlds(world, want) {
		t.Errorf("%v, %v, not %v", world, ok, want)
	}
	if want := wheelOf(20, [][3]int{{1, 25, 2}, {17, 100, 7}}); !sameWheels(wheel, want) {
		t.Errorf("%v, not %v", wheel, want)
	}
	world, wheel, ok = impl.WorldOf(scriptOf(append(slices.Clone(parted), "settle")...))
	settled := append(slices.Clone(b), impl.Event{Id: 3, Version: 1, Kind: impl.EvSignal, Name: "a"})
	if want := worldOf(regionOf(0, 1, a, settled), regionOf(1, 1, a, settled)); !ok || !sameWorlds(world, want) || !sameWheels(wheel, emptyWheel(0)) {
		t.Errorf("%v, %v, %v, not %v", world, wheel, ok, want)
	}
	// What is only asked for changes nothing.
	for _, l := range []string{"state 0", "state 1", "branches 0", "branches 1", "leaders", "next 100 * * *", "form a", "wait 2 3 100 4", "state 9", "branches 9", "tick 0"} {
		want := holdScript(t, scriptOf(append(slices.Clone(parted), l)...))[len(parted)]
		holdDoesNothing(t, parted, l, []string{"timer 9 1", "tick 9", "settle", "state 0"}, want)
	}
}

// A line's answer hangs neither on what follows nor on what is put between that does nothing.
func TestAnswersDoNotHangOnWhatFollows(t *testing.T) {
	others := append(goodLines(), "", "what", "call 0 2 z", "lead 9", "hear 7", strings.Repeat("x", 100))
	for _, lines := range [][]string{
		{"call 0 1 "}, parted, append(slices.Clone(parted), goodLines()...), slices.Concat(parted, []string{"settle"}, goodLines()), repeated(parted, "tick 7", 30), repeated(parted, "call 1 3 ", 62), repeated(begun, "say 0", 22),
		slices.Concat(parted, goodLines(), goodLines(), []string{"settle", "state 0", "branches 1"}),
	} {
		text := scriptOf(lines...)
		holdScript(t, text)
		if len(lines) < 40 {
			holdFollows(t, text, scriptOf(others...), scriptOf(goodLines()...), scriptOf("settle"), scriptOf(repeated(nil, "tick 1000", 40)...), "\n")
		} else {
			holdFollows(t, text, scriptOf("settle"))
		}
	}
}

// Each script of few lines, behind the same beginning.
func TestEveryFewLines(t *testing.T) {
	few := []string{"call 0 2 a", "call 1 2 b", "call 1 6 ", "lead 0", "lead 1", "say 0", "say 1", "hear 0", "hear 1", "lose 0", "twice 0", "reapply 0", "reapply 1", "settle", "timer 9 1", "tick 9", "hear", "state 2"}
	asked := []string{"state 0", "state 1", "branches 0", "branches 1", "leaders", "tick 3"}
	for _, one := range few {
		for _, two := range few {
			for _, three := range few {
				holdScript(t, scriptOf(slices.Concat(begun, []string{one, two, three}, asked)...))
			}
			holdFollows(t, scriptOf(slices.Concat(parted, []string{one, two})...), scriptOf("settle", "state 0"))
		}
	}
}

func TestManyScripts(t *testing.T) {
	answers := map[string]int{}
	for seed := range 400 {
		next := numbersFrom(uint64(113000 + seed))
		count := oneOfNumbers(next, 5, 20, 50, 80)
		var lines []string
		s := newSceneByWords()
		for len(lines) < count {
			l := someLine(s, next)
			if first := [][]string{nil, begun, parted, append(slices.Clone(parted), "hear 0")}[seed%4]; len(lines) < len(first) {
				l = first[len(lines)]
			}
			if len(scriptOf(append(slices.Clone(lines), l)...)) > 2500 || strings.Contains(l, "\n") {
				break
			}
			s.answer(l)
			lines = append(lines, l)
		}
		text := scriptOf(lines...)
		for i, answer := range holdScript(t, text) {
			name, _, _ := strings.Cut(lines[i], " ")
			if code, is := strings.CutPrefix(answer, "no "); is {
				name += code
			} else if answer == "no" {
				name += "-"
			} else if answer == "what" {
				name = answer
			}
			answers[name]++
		}
		if seed%4 == 0 {
			holdFollows(t, text)
		}
	}
	for _, name := range []string{
		"call", "call1", "call2", "call3", "call5", "lead", "lead1", "say", "say1", "reapply", "reapply1", "hear", "hear1", "lose", "lose1", "twice", "twice1", "settle", "state", "state1", "branches", "branches1", "leaders",
		"timer", "timer-", "tick", "tick-", "next", "next-", "form", "form-", "wait", "wait-", "what",
	} {
		if answers[name] < 10 {
			t.Errorf("%s: %d of %v", name, answers[name], answers)
		}
	}
}

// One byte of a script is changed: it is answered as the words say, or it is no script any more.
func TestScriptsThatAreChanged(t *testing.T) {
	whole := scriptOf(slices.Concat(parted, goodLines())...)
	none, what := 0, 0
	for seed := range 1500 {
		next := numbersFrom(uint64(114000 + seed))
		text := lineOff(whole, next)
		if next(5) == 0 {
			at := next(len(whole))
			text = whole[:at] + "\n" + whole[at:]
		}
		if next(9) == 0 {
			text = strings.TrimSuffix(text, "\n")
		}
		answers := holdScript(t, text)
		if len(answers) == 0 {
			none++
		}
		what += strings.Count(strings.Join(answers, " "), "what")
	}
	if none < 100 || what < 500 {
		t.Error(none, what)
	}
}

// Many who ask at once get what one gets.
func TestScriptsAskedForAtOnce(t *testing.T) {
	var group sync.WaitGroup
	for seed := range 8 {
		lines := slices.Concat(parted, goodLines()[seed:], []string{"settle", "state 0", "branches 1", "leaders"})
		text := scriptOf(lines...)
		answers, s := playLines(lines)
		want := scriptOf(answers...)
		group.Go(func() {
			for range 20 {
				if got := impl.RunWorld(text); got != want {
					t.Errorf("RunWorld %q: %q, not %q", text, got, want)
				}
				if world, wheel, ok := impl.WorldOf(text); !ok || !sameWorlds(world, s.world) || !sameWheels(wheel, s.wheel) {
					t.Errorf("WorldOf %q: %v, %v, %v", text, world, wheel, ok)
				}
			}
		})
	}
	group.Wait()
}
