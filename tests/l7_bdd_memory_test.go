package tests

import (
	"math"
	"slices"
	"sync"
	"testing"

	"loop.example/g00269/impl"
)

var wrongChoice = impl.Choice{Var: -7, No: 77, Yes: math.MinInt}

// diagramBehind lays wrong choices behind the list of a diagram.
func diagramBehind(d impl.Diagram) impl.Diagram {
	return impl.Diagram{Choices: append(slices.Clone(d.Choices), wrongChoice, wrongChoice, wrongChoice)[:len(d.Choices)], Root: d.Root}
}

// wholeDiagram copies all that lies in the memory of a diagram, up to its capacity.
func wholeDiagram(d impl.Diagram) impl.Diagram {
	return impl.Diagram{Choices: slices.Clone(d.Choices[:cap(d.Choices)]), Root: d.Root}
}

// answeredDiagrams asks all functions that make a diagram of others.
func answeredDiagrams(a impl.Diagram, b impl.Diagram) []impl.Diagram {
	var l []impl.Diagram
	for v := -1; v <= 6; v++ {
		no, _ := impl.Restrict(a, v, false)
		yes, _ := impl.Restrict(a, v, true)
		l = append(l, no, yes)
	}
	both, _ := impl.BothOf(a, b)
	same, _ := impl.BothOf(a, a)
	not, _ := impl.NotOf(a)
	return append(l, both, same, not)
}

// answeredNumbers asks all functions that tell something else of a diagram.
func answeredNumbers(d impl.Diagram) []int {
	count, _ := impl.CountYes(d)
	l := []int{count, 0}
	if impl.GoodDiagram(d) {
		l[1] = 1
	}
	for n := -1; n <= 64; n++ {
		if yes, ok := impl.Decide(d, n); yes && ok {
			l = append(l, n)
		}
	}
	return l
}

// fillDiagram writes over all that a diagram's list has.
func fillDiagram(d impl.Diagram) {
	whole := d.Choices[:cap(d.Choices)]
	for i := range whole {
		whole[i] = wrongChoice
	}
}

func holdDiagramMemory(t *testing.T, a impl.Diagram, b impl.Diagram) {
	t.Helper()
	want, wantNumbers := answeredDiagrams(a, b), answeredNumbers(a)
	laidA, laidB := diagramBehind(a), diagramBehind(b)
	keptA, keptB := wholeDiagram(laidA), wholeDiagram(laidB)
	for range 2 {
		got := answeredDiagrams(laidA, laidB)
		if !slices.EqualFunc(got, want, sameDiagrams) || !slices.Equal(answeredNumbers(laidA), wantNumbers) {
			t.Fatalf("%v and %v: what lies behind a list is read, or an answer was kept", a, b)
		}
		for i, answered := range got {
			if !sameDiagrams(answered, want[i]) {
				t.Fatalf("%v and %v: answer %d shares memory with another one", a, b, i)
			}
			for _, c := range answered.Choices[len(answered.Choices):cap(answered.Choices)] {
				if c != (impl.Choice{}) {
					t.Fatalf("%v and %v: behind answer %d lies %v", a, b, i, c)
				}
			}
			fillDiagram(answered)
		}
		if !sameDiagrams(wholeDiagram(laidA), keptA) || !sameDiagrams(wholeDiagram(laidB), keptB) {
			t.Fatalf("%v or %v, or what lies behind them, is written into", a, b)
		}
	}
}

func TestDiagramsAreLeftAlone(t *testing.T) {
	for seed := range 150 {
		next := numbersFrom(uint64(37000 + seed))
		holdDiagramMemory(t, diagramByWords(someTable(next)), diagramByWords(tableOfFew(next)))
		holdDiagramMemory(t, diagramByWords(tableOfFew(next)), diagramByWords(someTable(next)))
	}
	few := []impl.Diagram{noneWith(-2), noneWith(-1), diagramFrom([3]int{0, -2, -1}), diagramFrom([3]int{5, -1, -2})}
	for _, a := range few {
		for _, b := range few {
			holdDiagramMemory(t, a, b)
		}
	}
}

func TestBadDiagramsAreLeftAlone(t *testing.T) {
	good := diagramFrom([3]int{5, -1, -2})
	for _, d := range badDiagrams() {
		holdDiagramMemory(t, d, good)
		holdDiagramMemory(t, good, d)
	}
}

func TestChoicesBehindTheList(t *testing.T) {
	all := []impl.Choice{{Var: 1, No: -2, Yes: -1}, {Var: 1, No: -1, Yes: -2}, {Var: 0, No: 0, Yes: 1}}
	kept := slices.Clone(all)
	for length, want := range []bool{false, true, false, true} {
		if got := impl.GoodDiagram(impl.Diagram{Choices: all[:length], Root: length - 1}); length > 0 && got != want {
			t.Error(length, got)
		}
		if impl.GoodDiagram(impl.Diagram{Choices: all[:length], Root: length}) {
			t.Errorf("of %d choices one behind the list is the root", length)
		}
	}
	// The choice behind the list is one that a node tells of.
	if impl.GoodDiagram(impl.Diagram{Choices: []impl.Choice{{Var: 0, No: 1, Yes: -1}, {Var: 1, No: -2, Yes: -1}}[:1], Root: 0}) {
		t.Error("a choice behind the list is come to")
	}
	// Two diagrams in one memory, the one a beginning of the other.
	both, ok := impl.BothOf(impl.Diagram{Choices: all, Root: 2}, impl.Diagram{Choices: all[:1], Root: 0})
	if want := diagramFrom([3]int{1, -2, -1}, [3]int{0, 0, -2}); !ok || !sameDiagrams(both, want) {
		t.Error(both, ok)
	}
	if !slices.Equal(all, kept) {
		t.Error("the list is written into:", all)
	}
}

func TestFormAnswersShareNoMemory(t *testing.T) {
	forms := append([]string{"0", "1", "a", "(a^b)", "(a^(b^(c^(d^(e^f)))))", "(a", ""}, greatestForms...)
	for _, form := range forms {
		s := freshText(form)
		want, wantOk := tableByWords(form)
		for range 2 {
			table, _ := impl.TableOf(s)
			again, _ := impl.TableOf(s)
			if table != want || shareBytes(table, s) || shareBytes(table, again) || s != form {
				t.Fatalf("TableOf %q shares memory: %q", form, table)
			}
			first, ok := impl.DiagramOf(s)
			second, _ := impl.DiagramOf(s)
			fillDiagram(first)
			if ok != wantOk || ok && !sameDiagrams(second, diagramByWords(want)) {
				t.Fatalf("DiagramOf %q: two answers share memory, or one is told again: %v", form, second)
			}
			fillDiagram(second)
		}
	}
}

// Many who ask at once get what one gets.
func TestDiagramsAskedForAtOnce(t *testing.T) {
	var group sync.WaitGroup
	for asker := range 8 {
		group.Go(func() {
			for i := range 40 {
				form := greatestForms[(asker+i)%len(greatestForms)]
				d, ok := impl.DiagramOf(form)
				table, _ := tableByWords(form)
				if both, okBoth := impl.BothOf(d, d); !ok || !okBoth || !sameDiagrams(d, diagramByWords(table)) || !sameDiagrams(both, d) {
					t.Errorf("%q: %v, %v", form, d, both)
				}
			}
		})
	}
	group.Wait()
}
