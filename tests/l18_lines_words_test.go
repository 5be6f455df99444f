package tests

import (
	"regexp"
	"slices"
	"strconv"
	"strings"

	"loop.example/g00269/impl"
)

// What the document's words say of scripts: each line held against the shape of each kind, and done to a world and a wheel by the words of their chapters.

// lineShapes are the kinds of lines as the document writes them: N for each number, T for a text.
var lineShapes = []string{
	"call N N T", "lead N", "say N", "hear N", "lose N", "twice N", "reapply N", "settle", "state N", "branches N", "leaders",
	"timer N N", "tick N", "next N T", "form T", "wait N N N N",
}

var lineReaders = func() map[string]*regexp.Regexp {
	shapes := strings.NewReplacer("N", "(0|[1-9][0-9]{0,8})", "T", "((?s:.*))")
	readers := map[string]*regexp.Regexp{}
	for _, shape := range lineShapes {
		name, _, _ := strings.Cut(shape, " ")
		readers[name] = regexp.MustCompile(`\A` + shapes.Replace(shape) + `\z`)
	}
	return readers
}()

// stepNames are the names of lines in the order of the kinds of steps.
var stepNames = []string{"none", "call", "lead", "say", "hear", "lose", "twice", "reapply"}

// A sceneByWords is what the lines so far have made.
type sceneByWords struct {
	world impl.World
	wheel impl.Wheel
}

func newSceneByWords() sceneByWords {
	return sceneByWords{world: newWorldByWords(), wheel: emptyWheel(0)}
}

// linesByWords tells the lines of a script.
func linesByWords(text string) ([]string, bool) {
	lines := strings.Split(text, "\n")
	last := len(lines) - 1
	return lines[:last], lines[last] == "" && len(text) <= 2500 && last <= 80
}

// playLines tells the answers of lines, one by one, and what they made.
func playLines(lines []string) ([]string, sceneByWords) {
	s := newSceneByWords()
	var answers []string
	for _, l := range lines {
		answers = append(answers, s.answer(l))
	}
	return answers, s
}

// scriptOf puts a byte 10 behind each line.
func scriptOf(lines ...string) string {
	script := ""
	for _, l := range lines {
		script += l + "\n"
	}
	return script
}

func (s *sceneByWords) answer(l string) string {
	name, _, _ := strings.Cut(l, " ")
	reader, ok := lineReaders[name]
	if !ok {
		return "what"
	}
	words := reader.FindStringSubmatch(l)
	if words == nil {
		return "what"
	}
	var numbers []int
	for _, word := range words[1:] {
		// A text may look like a number, or not; where it stands nobody asks for one.
		n, _ := strconv.Atoi(word)
		numbers = append(numbers, n)
	}
	text := words[len(words)-1]
	switch name {
	case "settle", "state", "branches", "leaders":
		return s.answerOfWorld(name, append(numbers, 0)[0])
	case "timer", "tick":
		return s.answerOfWheel(name, append(numbers, 0))
	case "next", "form", "wait":
		return answerOfNone(name, numbers, text)
	case "call":
		return s.step(impl.WorldStep{Kind: 1, Region: numbers[0], What: numbers[1], Name: text})
	}
	return s.step(impl.WorldStep{Kind: slices.Index(stepNames, name), Region: numbers[0], K: numbers[0]})
}

func (s *sceneByWords) step(step impl.WorldStep) string {
	after, code := stepWorldByWords(s.world, step)
	s.world = after
	if code == 0 {
		return "ok"
	}
	return "no " + strconv.Itoa(code)
}

func (s *sceneByWords) answerOfWorld(name string, region int) string {
	switch name {
	case "settle":
		settled, rounds, ok := settleByWords(s.world)
		if !ok {
			return "no"
		}
		s.world = settled
		return "rounds " + strconv.Itoa(rounds)
	case "leaders":
		return "leaders" + numbersBehind(leadersByWords(s.world))
	}
	if region != 0 && region != 1 {
		return "no 1"
	}
	told := s.world.Regions[region].Tellings
	if name == "state" {
		state := rowMakes(currentByWords(told))
		return strings.Join(append([]string{"state" + numbersBehind([]int{state.Status, state.Next})}, state.Signals...), " ")
	}
	answer := "branches"
	for _, l := range rowsIn(told) {
		answer += numbersBehind([]int{len(l)}) + "@" + strconv.Itoa(newestByWords(tellingsOf(l)))
	}
	return answer
}

func (s *sceneByWords) answerOfWheel(name string, numbers []int) string {
	if name == "tick" {
		if numbers[0] > 1000 || s.wheel.Now+numbers[0] > 100000 {
			return "no"
		}
		var due []int
		s.wheel, due, _ = advanceByWords(s.wheel, s.wheel.Now+numbers[0])
		return "due" + numbersBehind(due)
	}
	all := timersByWords(s.wheel)
	timer := impl.Timer{At: numbers[0], Id: numbers[1]}
	if timer.Id > 1000 || len(all) == 60 || slices.ContainsFunc(all, func(other impl.Timer) bool { return other.Id == timer.Id }) {
		return "no"
	}
	wheel, ok := setByWords(s.wheel, timer)
	if !ok {
		return "no"
	}
	s.wheel = wheel
	return "ok"
}

// answerOfNone answers the lines that ask neither for the world nor for the wheel.
func answerOfNone(name string, numbers []int, text string) string {
	switch name {
	case "next":
		c, ok := readByWords(text)
		if !ok || numbers[0] > lastCronTime {
			return "no"
		}
		return "at" + numbersBehind([]int{nextTimeByWords(fitsOfWeek(c), numbers[0])})
	case "form":
		table, ok := tableByWords(text)
		if !ok {
			return "no"
		}
		return "choices" + numbersBehind([]int{len(diagramByWords(table).Choices), strings.Count(table, "1")})
	}
	p := impl.Policy{First: numbers[0], Times: numbers[1], Most: numbers[2], Tries: numbers[3]}
	if !goodPolicyByWords(p) {
		return "no"
	}
	return "wait" + numbersBehind([]int{waitByWords(p, p.Tries)})
}

// numbersBehind tells for each number a blank and it.
func numbersBehind(l []int) string {
	s := ""
	for _, n := range l {
		s += " " + strconv.Itoa(n)
	}
	return s
}

// stepLine tells the line of a step whose numbers are not below 0.
func stepLine(s impl.WorldStep) string {
	name := stepNames[s.Kind]
	switch s.Kind {
	case impl.DoCall:
		return name + numbersBehind([]int{s.Region, s.What}) + " " + s.Name
	case impl.DoHear, impl.DoLose, impl.DoTwice:
		return name + numbersBehind([]int{s.K})
	}
	return name + numbersBehind([]int{s.Region})
}

// someLine draws a line; most can be done.
func someLine(s sceneByWords, next func(below int) int) string {
	now := s.wheel.Now
	switch next(40) {
	case 0:
		return "settle"
	case 1, 2:
		return stepNames[1+next(7)] + numbersBehind([]int{oneOfNumbers(next, 2, 20, next(30), 999999999)})
	case 3:
		return "leaders"
	case 4, 5, 6, 7:
		return "timer" + numbersBehind([]int{now + oneOfNumbers(next, 0, 1, 2, next(8), next(64), next(510), 511, 512), oneOfNumbers(next, next(4), next(1001), 1000, 1001)})
	case 8, 9, 10:
		return "tick" + numbersBehind([]int{oneOfNumbers(next, 0, 1, next(8), next(64), next(1000), 1000, 1001)})
	case 11, 12:
		return oneOfTexts(next, "state ", "branches ") + strconv.Itoa(oneOfNumbers(next, 0, 1, 0, 1, 2))
	case 13, 14:
		return someQuestion(next)
	case 15:
		return lineOff(someQuestion(next), next)
	case 16, 17:
		return "reapply " + strconv.Itoa(next(2))
	}
	step := someWorldStep(s.world, next)
	if step.Kind < 1 || step.Kind > 7 || step.Region < 0 || step.What < 0 || step.K < 0 {
		return lineOff("leaders", next)
	}
	return stepLine(step)
}

func oneOfTexts(next func(below int) int, l ...string) string {
	return l[next(len(l))]
}

// someQuestion draws a line that asks neither for the world nor for the wheel.
func someQuestion(next func(below int) int) string {
	switch next(3) {
	case 0:
		return "next" + numbersBehind([]int{oneOfNumbers(next, 0, next(20000), next(1000000), 1000000, 1000001)}) + " " + someCronText(next)
	case 1:
		return "form " + someForm(1+next(20), next)
	}
	p := somePolicy(next)
	return "wait" + numbersBehind([]int{oneOfNumbers(next, p.First, p.First, p.First, 0, 1001), oneOfNumbers(next, p.Times, p.Times, p.Times, 11), p.Most, oneOfNumbers(next, p.Tries, p.Tries, p.Tries, 0, 41)})
}

// lineOff takes a byte out of a line, puts one in, or writes one over another.
func lineOff(s string, next func(below int) int) string {
	const signs = "01 9 2a T~-+\t\r\x00\xff"
	at, from := next(len(s)), next(len(signs))
	sign := signs[from : from+1]
	return changedAt(s, at, sign, next(3))
}
