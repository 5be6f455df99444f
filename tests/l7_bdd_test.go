package tests

import (
	"math"
	"slices"
	"strings"
	"testing"

	"loop.example/g00269/impl"
)

// holdForm holds what is told of any text against the document's words.
func holdForm(t *testing.T, s string) bool {
	t.Helper()
	table, good := tableByWords(s)
	if impl.GoodForm(s) != good {
		t.Fatalf("GoodForm %q is not %v", s, good)
	}
	if got, ok := impl.TableOf(s); got != table || ok != good {
		t.Fatalf("TableOf %q: %q, %v, not %q, %v", s, got, ok, table, good)
	}
	d, ok := impl.DiagramOf(s)
	if ok != good || !good && !isZeroDiagram(d) {
		t.Fatalf("DiagramOf %q: %v, %v", s, d, ok)
	}
	if good && !sameDiagrams(d, diagramByWords(table)) {
		t.Fatalf("DiagramOf %q: %v, not %v", s, d, diagramByWords(table))
	}
	return good
}

// holdDiagram holds each function against the document's words, of a good diagram.
func holdDiagram(t *testing.T, d impl.Diagram) {
	t.Helper()
	if !goodDiagramByWords(d) || !impl.GoodDiagram(d) {
		t.Fatalf("%v is not good", d)
	}
	table := tableOfDiagram(d)
	for n := range allBits {
		if yes, ok := impl.Decide(d, n); !ok || yes != (table[n] == '1') {
			t.Fatalf("Decide %v, %d: %v, %v", d, n, yes, ok)
		}
	}
	if count, ok := impl.CountYes(d); !ok || count != strings.Count(table, "1") {
		t.Fatalf("CountYes %v: %d, %v", d, count, ok)
	}
	for v := range 6 {
		holdRestrict(t, d, table, v, false)
		holdRestrict(t, d, table, v, true)
	}
	not, ok := impl.NotOf(d)
	if !ok || !sameDiagrams(not, diagramByWords(notByWords(table))) {
		t.Fatalf("NotOf %v: %v, %v", d, not, ok)
	}
	if again, ok := impl.NotOf(not); !ok || !sameDiagrams(again, d) {
		t.Fatalf("NotOf NotOf %v: %v, %v", d, again, ok)
	}
	for _, other := range []impl.Diagram{d, not, noneWith(-2), noneWith(-1)} {
		holdBoth(t, d, other)
	}
}

func holdRestrict(t *testing.T, d impl.Diagram, table string, v int, yes bool) {
	t.Helper()
	want := diagramByWords(restrictByWords(table, v, yes))
	got, ok := impl.Restrict(d, v, yes)
	if !ok || !sameDiagrams(got, want) {
		t.Fatalf("Restrict %v, %d, %v: %v, %v, not %v", d, v, yes, got, ok, want)
	}
	if again, ok := impl.Restrict(got, v, !yes); !ok || !sameDiagrams(again, want) {
		t.Fatalf("Restrict %v, %d, %v, and then %v: %v, %v", d, v, yes, !yes, again, ok)
	}
}

func holdBoth(t *testing.T, a impl.Diagram, b impl.Diagram) {
	t.Helper()
	want := diagramByWords(bothByWords(tableOfDiagram(a), tableOfDiagram(b)))
	if got, ok := impl.BothOf(a, b); !ok || !sameDiagrams(got, want) {
		t.Fatalf("BothOf %v, %v: %v, %v, not %v", a, b, got, ok, want)
	}
	if got, ok := impl.BothOf(b, a); !ok || !sameDiagrams(got, want) {
		t.Fatalf("BothOf %v, %v: %v, %v, not %v", b, a, got, ok, want)
	}
}

// holdDiagramRefused holds that each function tells the zero answer of a diagram that is not good.
func holdDiagramRefused(t *testing.T, d impl.Diagram) {
	t.Helper()
	if impl.GoodDiagram(d) || goodDiagramByWords(d) {
		t.Fatalf("GoodDiagram takes %v", d)
	}
	for _, n := range []int{0, 1, 2, 62, 63, -1, 64, math.MaxInt, math.MinInt} {
		holdBitsRefused(t, d, n)
	}
	if count, ok := impl.CountYes(d); count != 0 || ok {
		t.Errorf("CountYes %v: %d, %v", d, count, ok)
	}
	for _, v := range []int{0, 1, 2, 3, 4, 5, -1, 6, math.MaxInt, math.MinInt} {
		holdVariableRefused(t, d, v)
	}
	if got, ok := impl.NotOf(d); !isZeroDiagram(got) || ok {
		t.Errorf("NotOf %v: %v, %v", d, got, ok)
	}
	for _, good := range []impl.Diagram{noneWith(-2), noneWith(-1), diagramFrom([3]int{5, -2, -1}), diagramFrom([3]int{1, -2, -1}, [3]int{1, -1, -2}, [3]int{0, 0, 1}), d} {
		if got, ok := impl.BothOf(d, good); !isZeroDiagram(got) || ok {
			t.Errorf("BothOf %v, %v: %v, %v", d, good, got, ok)
		}
		if got, ok := impl.BothOf(good, d); !isZeroDiagram(got) || ok {
			t.Errorf("BothOf %v, %v: %v, %v", good, d, got, ok)
		}
	}
}

func holdBitsRefused(t *testing.T, d impl.Diagram, n int) {
	t.Helper()
	if yes, ok := impl.Decide(d, n); yes || ok {
		t.Errorf("Decide %v, %d: %v, %v", d, n, yes, ok)
	}
}

func holdVariableRefused(t *testing.T, d impl.Diagram, v int) {
	t.Helper()
	for _, yes := range []bool{false, true} {
		if got, ok := impl.Restrict(d, v, yes); !isZeroDiagram(got) || ok {
			t.Errorf("Restrict %v, %d, %v: %v, %v", d, v, yes, got, ok)
		}
	}
}

// holdEither holds of any diagram that it is good just where the document's words say so.
func holdEither(t *testing.T, d impl.Diagram) bool {
	t.Helper()
	good := goodDiagramByWords(d)
	if good {
		holdDiagram(t, d)
	} else {
		holdDiagramRefused(t, d)
	}
	return good
}

func TestDiagramLimitsAreAsTold(t *testing.T) {
	if impl.MaxVars != 6 || impl.MaxForm != 60 || impl.MaxDiagram != 70 {
		t.Error(impl.MaxVars, impl.MaxForm, impl.MaxDiagram)
	}
}

func TestNamedTables(t *testing.T) {
	for form, part := range map[string]string{
		"0": "0", "1": "1", "!0": "1", "!1": "0", "!!0": "0",
		"a": "01", "b": "0011", "c": "00001111", "d": "0000000011111111",
		"e":  strings.Repeat("0", 16) + strings.Repeat("1", 16),
		"f":  strings.Repeat("0", 32) + strings.Repeat("1", 32),
		"!a": "10", "!!a": "01", "!f": strings.Repeat("1", 32) + strings.Repeat("0", 32),
		"(a&b)": "0001", "(a|b)": "0111", "(a^b)": "0110", "(b&a)": "0001",
		"!(a&b)": "1110", "(!a&b)": "0010", "(a&!b)": "0100", "(a^a)": "0", "(a|!a)": "1",
		"(a&(b|c))": "00010101", "((a&b)|c)": "00011111", "((a^b)^c)": "01101001",
		"(0&1)": "0", "(0|1)": "1", "(1^1)": "0", "(1^0)": "1", "(a&1)": "01", "(a&0)": "0", "(a|1)": "1", "(a^1)": "10",
		"(e&f)":                 strings.Repeat("0", 48) + strings.Repeat("1", 16),
		"(a&(b&(c&(d&(e&f)))))": strings.Repeat("0", 63) + "1",
		"(a|(b|(c|(d|(e|f)))))": "0" + strings.Repeat("1", 63),
	} {
		want := strings.Repeat(part, allBits/len(part))
		if got, ok := impl.TableOf(form); got != want || !ok {
			t.Errorf("TableOf %q: %q, %v", form, got, ok)
		}
		holdForm(t, form)
	}
}

func TestNamedDiagrams(t *testing.T) {
	for form, want := range map[string]impl.Diagram{
		"0": noneWith(-2), "1": noneWith(-1), "(a^a)": noneWith(-2), "(a|!a)": noneWith(-1),
		"a": diagramFrom([3]int{0, -2, -1}), "!a": diagramFrom([3]int{0, -1, -2}),
		"b": diagramFrom([3]int{1, -2, -1}), "c": diagramFrom([3]int{2, -2, -1}), "d": diagramFrom([3]int{3, -2, -1}), "e": diagramFrom([3]int{4, -2, -1}),
		"f": diagramFrom([3]int{5, -2, -1}), "!f": diagramFrom([3]int{5, -1, -2}),
		"(a&b)": diagramFrom([3]int{1, -2, -1}, [3]int{0, -2, 0}),
		"(b|a)": diagramFrom([3]int{1, -2, -1}, [3]int{0, 0, -1}),
		"(a^b)": diagramFrom([3]int{1, -2, -1}, [3]int{1, -1, -2}, [3]int{0, 0, 1}),
		"(f^b)": diagramFrom([3]int{5, -2, -1}, [3]int{5, -1, -2}, [3]int{1, 0, 1}),
		// If a then b, otherwise c: No comes first, also where its variable is later.
		"((a&b)|(!a&c))": diagramFrom([3]int{2, -2, -1}, [3]int{1, -2, -1}, [3]int{0, 0, 1}),
		"((a&c)|(!a&b))": diagramFrom([3]int{1, -2, -1}, [3]int{2, -2, -1}, [3]int{0, 0, 1}),
		// Two of three: both ways of a come to the choice of c, which is there once.
		"((a&(b|c))|(b&c))": diagramFrom([3]int{2, -2, -1}, [3]int{1, -2, 0}, [3]int{1, 0, -1}, [3]int{0, 1, 2}),
		"((a^b)^c)":         diagramFrom([3]int{2, -2, -1}, [3]int{2, -1, -2}, [3]int{1, 0, 1}, [3]int{1, 1, 0}, [3]int{0, 2, 3}),
	} {
		if got, ok := impl.DiagramOf(form); !ok || !sameDiagrams(got, want) {
			t.Errorf("DiagramOf %q: %v, %v, not %v", form, got, ok, want)
		}
		holdForm(t, form)
		holdDiagram(t, want)
	}
}

func TestFormsThatDecideAlike(t *testing.T) {
	groups := [][]string{
		{"0", "!1", "(a&!a)", "(f^f)", "(0&f)", "!(d|!d)"},
		{"1", "!0", "(a|!a)", "!(f^f)", "(1|f)", "(b^!b)"},
		{"a", "!!a", "(a&a)", "(a|a)", "(a^0)", "(a|(a&b))", "((a&b)|(a&!b))"},
		{"!a", "(a^1)", "!!!a", "!(a&a)"},
		{"(a^b)", "(b^a)", "((a|b)&!(a&b))", "((a&!b)|(!a&b))", "!(a^!b)", "(!a^!b)"},
		{"(a&b)", "!(!a|!b)", "(b&a)", "((a|b)^(a^b))"},
		{"(a|b)", "!(!a&!b)", "((a^b)^(a&b))"},
		{"(a&(b|c))", "((a&b)|(a&c))", "((c|b)&a)"},
		{"(e&f)", "(f&e)", "!(!e|!f)"},
		{"(a^(b^(c^(d^(e^f)))))", "(((((f^e)^d)^c)^b)^a)", "!(!a^(b^(c^(d^(e^f)))))"},
	}
	for i, forms := range groups {
		first, _ := impl.DiagramOf(forms[0])
		for _, form := range forms {
			if d, ok := impl.DiagramOf(form); !ok || !sameDiagrams(d, first) {
				t.Errorf("%q decides as %q, and has %v, not %v", form, forms[0], d, first)
			}
		}
		for _, others := range groups[:i] {
			if d, _ := impl.DiagramOf(others[0]); sameDiagrams(d, first) {
				t.Errorf("%q and %q have one diagram", others[0], forms[0])
			}
		}
	}
}

// Two forms decide alike just where their diagrams are the same.
func TestEveryShortForm(t *testing.T) {
	var tables []string
	var diagrams []impl.Diagram
	for length := range 7 {
		for _, form := range everyForm(length) {
			if !holdForm(t, form) {
				t.Fatal(form)
			}
			table, _ := impl.TableOf(form)
			d, _ := impl.DiagramOf(form)
			tables = append(tables, table)
			diagrams = append(diagrams, d)
		}
	}
	for i := range tables {
		for j := range i {
			if (tables[i] == tables[j]) != sameDiagrams(diagrams[i], diagrams[j]) {
				t.Fatalf("%q and %q have %v and %v", tables[i], tables[j], diagrams[i], diagrams[j])
			}
		}
	}
}

func TestManyForms(t *testing.T) {
	tables := map[string]impl.Diagram{}
	for seed := range 3000 {
		next := numbersFrom(uint64(17000 + seed))
		form := someForm(1+next(impl.MaxForm), next)
		if !holdForm(t, form) {
			t.Fatal(form)
		}
		d, _ := impl.DiagramOf(form)
		if seed%10 == 0 {
			holdDiagram(t, d)
		}
		table, _ := impl.TableOf(form)
		if other, met := tables[table]; met && !sameDiagrams(d, other) {
			t.Fatalf("%q: %v, and of another form that decides alike %v", form, d, other)
		}
		tables[table] = d
	}
}

func TestFormsOfAllVariables(t *testing.T) {
	for form, choices := range map[string]int{
		"(a&(b&(c&(d&(e&f)))))": 6, "(a|(b|(c|(d|(e|f)))))": 6, "(((((a&b)|c)&d)|e)&f)": 6,
		"(a^(b^(c^(d^(e^f)))))": 11, "((a&b)|((c&d)|(e&f)))": 6, "((a&d)|((b&e)|(c&f)))": 14,
	} {
		d, ok := impl.DiagramOf(form)
		if !ok || len(d.Choices) != choices || d.Root != choices-1 {
			t.Errorf("DiagramOf %q: %v, %v", form, d, ok)
		}
		holdForm(t, form)
		holdDiagram(t, d)
	}
}

func TestLengthsOfForms(t *testing.T) {
	long := greatestForms[2] // 59 bytes
	pairs := "a"
	for len(pairs) < 57 {
		pairs = "(" + pairs + "^b)"
	}
	for form, want := range map[string]bool{
		strings.Repeat("!", 59) + "a": true, strings.Repeat("!", 60) + "a": false, strings.Repeat("!", 58) + "a": true, strings.Repeat("!", 59) + "0": true, strings.Repeat("!", 60) + "1": false,
		long: true, "!" + long: true, "!!" + long: false, greatestForms[3]: true, "!" + greatestForms[3]: false,
		pairs: true, "!!!" + pairs: true, "!!!!" + pairs: false, "(" + pairs + "^b)": false,
		strings.Repeat("(", 14) + "a" + strings.Repeat("&f)", 14): true, strings.Repeat("(", 15) + "a" + strings.Repeat("&f)", 15): false,
		strings.Repeat("!", 1000000) + "a": false, strings.Repeat("(", 1000000): false,
		strings.Repeat("(a&", 300000) + "a" + strings.Repeat(")", 300000): false, strings.Repeat("(", 300000) + "a" + strings.Repeat("&a)", 300000): false,
	} {
		if impl.GoodForm(form) != want {
			t.Errorf("GoodForm of %d bytes, %.70q, is not %v", len(form), form, want)
		}
		if holdForm(t, form) != want {
			t.Errorf("%.70q", form)
		}
	}
}

func TestRefusedForms(t *testing.T) {
	for _, form := range []string{
		"",
		"g", "A", "F", "h", "z", "2", "9", "-1", "-", "x", "é", "\x00", "\xff", "`", "/", " ",
		"!", "!!", "a!", "(a!b)", "(a&!)", "(!&b)", "!(", "!)", "~a", "-a",
		"(", ")", "()", "(a", "a)", "(a)", "((a))", "(a&", "(a&b", "a&b", "a&b)", "(&b)", "(a&)", "(&)", "(a&b))", "((a&b)", "((a&b))", "(a&b)(", "(a&b)&", "((a&b)|c", "(a&(b|c)",
		"(a&b&c)", "(a&b|c)", "(a&&b)", "(a||b)", "(ab)", "(a b)", "(a+b)", "(a-b)", "(a*b)", "(a=b)", "(a!b)", "(a0b)", "(a)b)", "(a(b)", "(a&b]", "[a&b]", "{a&b}",
		"ab", "00", "01", "10", "a0", "aa", "!aa", "(a&b)a", "(a&b)(a&b)", "a(a&b)", "a(", "(a&b)!", "a!b",
		" a", "a ", "(a &b)", "(a& b)", "( a&b)", "(a&b )", "a\n", "a\x00", "\x00a", "(a&b)\n", "(a\x00b)", "(a&b\xff",
		"(a&B)", "(g&a)", "(a&g)", "(a|2)", "(3^a)",
	} {
		if holdForm(t, form) || impl.GoodForm(form) {
			t.Errorf("%q is taken", form)
		}
	}
}

func TestTextsOfFewBytes(t *testing.T) {
	for c := range 256 {
		for _, form := range []string{string([]byte{byte(c)}), "!" + string([]byte{byte(c)}), "(a" + string([]byte{byte(c)}) + "b)", "(a&b" + string([]byte{byte(c)}), string([]byte{byte(c)}) + "a&b)", "a" + string([]byte{byte(c)})} {
			holdForm(t, form)
		}
	}
	texts := []string{""}
	good := 0
	for range 5 {
		var longer []string
		for _, s := range texts {
			for _, c := range "0af!(&^)" {
				longer = append(longer, s+string(c))
			}
		}
		texts = longer
		for _, s := range texts {
			if holdForm(t, s) {
				good++
			}
		}
	}
	// Of each length 3 with signs of not alone, and with 5 bytes a pair of letters with one of two signs.
	if good != 5*3+3*3*2 {
		t.Error(good)
	}
}

func TestFormsThatAreOff(t *testing.T) {
	refused := 0
	for seed := range 6000 {
		next := numbersFrom(uint64(21000 + seed))
		if !holdForm(t, formOff(someForm(1+next(62), next), next)) {
			refused++
		}
	}
	for _, s := range anyTexts() {
		holdForm(t, s)
	}
	if refused < 2000 || refused > 5500 {
		t.Error(refused)
	}
}

func TestEachDecisionOfThreeVariables(t *testing.T) {
	for a := range 6 {
		for b := range a {
			for c := range b {
				everyTableOf([3]int{a, b, c}, func(table string) {
					holdDiagram(t, diagramByWords(table))
				})
			}
		}
	}
}

func TestManyDecisions(t *testing.T) {
	for seed := range 600 {
		next := numbersFrom(uint64(28000 + seed))
		a, b := diagramByWords(someTable(next)), diagramByWords(tableOfFew(next))
		holdDiagram(t, a)
		holdDiagram(t, b)
		holdBoth(t, a, b)
		holdBoth(t, diagramByWords(tableOfFew(next)), diagramByWords(someTable(next)))
	}
}

// Forms and what is made of their diagrams come to the same diagrams.
func TestDiagramsOfFormsPutTogether(t *testing.T) {
	for seed := range 1500 {
		next := numbersFrom(uint64(30000 + seed))
		x, y := someForm(1+next(27), next), someForm(1+next(27), next)
		dx, _ := impl.DiagramOf(x)
		dy, _ := impl.DiagramOf(y)
		both, ok := impl.BothOf(dx, dy)
		if want, _ := impl.DiagramOf("(" + x + "&" + y + ")"); !ok || !sameDiagrams(both, want) {
			t.Fatalf("BothOf %q, %q: %v, %v", x, y, both, ok)
		}
		not, ok := impl.NotOf(dx)
		if want, _ := impl.DiagramOf("!" + x); !ok || !sameDiagrams(not, want) {
			t.Fatalf("NotOf %q: %v, %v", x, not, ok)
		}
		v := next(6)
		for i, yes := range []bool{false, true} {
			got, ok := impl.Restrict(dx, v, yes)
			set := strings.ReplaceAll(x, string("abcdef"[v]), string("01"[i]))
			if want, _ := impl.DiagramOf(set); !ok || !sameDiagrams(got, want) {
				t.Fatalf("Restrict %q, %d, %v: %v, %v", x, v, yes, got, ok)
			}
		}
	}
}

func TestGreatestDiagrams(t *testing.T) {
	for _, form := range greatestForms {
		d, ok := impl.DiagramOf(form)
		if !ok || len(d.Choices) != mostChoices || d.Root != mostChoices-1 {
			t.Errorf("DiagramOf %q: %v, %v", form, d, ok)
		}
		holdForm(t, form)
		holdDiagram(t, d)
		table := tableOfDiagram(d)
		for v := range 6 {
			// What is yes wherever v is, and what is yes wherever it is not: both together are d.
			a := diagramByWords(notByWords(bothByWords(notByWords(table), restrictedTo(v, true))))
			b := diagramByWords(notByWords(bothByWords(notByWords(table), restrictedTo(v, false))))
			holdBoth(t, a, b)
			if both, ok := impl.BothOf(a, b); !ok || !sameDiagrams(both, d) {
				t.Errorf("BothOf %v, %v: %v, %v", a, b, both, ok)
			}
		}
	}
	form := greatestForms[0]
	a, _ := impl.DiagramOf("(" + form + "|a)")
	b, _ := impl.DiagramOf("(" + form + "|!a)")
	if both, ok := impl.BothOf(a, b); !ok || len(both.Choices) != mostChoices || len(a.Choices) >= mostChoices || len(b.Choices) >= mostChoices {
		t.Error(len(a.Choices), len(b.Choices), both, ok)
	}
}

// restrictedTo is yes just where the variable v is so.
func restrictedTo(v int, yes bool) string {
	table, _ := tableByWords(string("abcdef"[v]))
	if yes {
		return table
	}
	return notByWords(table)
}

func TestEachTwoOfSomeDiagrams(t *testing.T) {
	forms := append(slices.Concat(everyForm(1), everyForm(2)), greatestForms...)
	forms = append(forms, "(a^b)", "(e^f)", "((a&b)|(!a&c))", "(a^(b^(c^(d^(e^f)))))", "((a&d)|((b&e)|(c&f)))", "!((a&d)|((b&e)|(c&f)))")
	var diagrams []impl.Diagram
	for _, form := range forms {
		d, ok := impl.DiagramOf(form)
		if !ok {
			t.Fatal(form)
		}
		diagrams = append(diagrams, d)
	}
	for _, a := range diagrams {
		for _, b := range diagrams {
			holdBoth(t, a, b)
		}
	}
}

func TestNoChoices(t *testing.T) {
	for root, count := range map[int]int{-2: 0, -1: 64} {
		for _, choices := range [][]impl.Choice{nil, {}, make([]impl.Choice, 0, 9)} {
			d := impl.Diagram{Choices: choices, Root: root}
			holdDiagram(t, d)
			if got, ok := impl.CountYes(d); got != count || !ok {
				t.Error(root, got, ok)
			}
			if got, ok := impl.NotOf(d); !ok || len(got.Choices) != 0 || got.Root != -3-root {
				t.Error(root, got, ok)
			}
			for _, other := range []int{-3, 0, 1, 70, -4, math.MaxInt, math.MinInt} {
				holdDiagramRefused(t, impl.Diagram{Choices: choices, Root: other})
			}
		}
	}
}

func TestBitsOfDecisions(t *testing.T) {
	for v := range 6 {
		d := diagramFrom([3]int{v, -2, -1})
		for n := range allBits {
			if yes, ok := impl.Decide(d, n); !ok || yes != (n>>v&1 == 1) {
				t.Errorf("Decide %v, %d: %v, %v", d, n, yes, ok)
			}
		}
		if no, ok := impl.Decide(d, 0); no || !ok {
			t.Error(v, no, ok)
		}
		if yes, ok := impl.Decide(d, 63); !yes || !ok {
			t.Error(v, yes, ok)
		}
		if count, ok := impl.CountYes(d); count != 32 || !ok {
			t.Error(v, count, ok)
		}
	}
}

func TestBitsAndVariablesBeyondTheirBounds(t *testing.T) {
	forms := append([]string{"0", "1", "a", "f", "(a^b)", "(a^(b^(c^(d^(e^f)))))"}, greatestForms...)
	for _, form := range forms {
		d, _ := impl.DiagramOf(form)
		for _, n := range []int{-1, -2, -64, 64, 65, 127, 128, 1 << 32, math.MaxInt, math.MaxInt - 63, math.MinInt, math.MinInt + 63} {
			holdBitsRefused(t, d, n)
		}
		for _, v := range []int{-1, -2, -6, 6, 7, 64, 70, 1 << 32, math.MaxInt, math.MaxInt - 5, math.MinInt, math.MinInt + 5} {
			holdVariableRefused(t, d, v)
		}
	}
}

func TestVariablesThatAreNotAskedFor(t *testing.T) {
	for form, without := range map[string]string{
		"0": "abcdef", "1": "abcdef", "a": "bcdef", "f": "abcde", "c": "abdef", "(a^b)": "cdef", "((a&b)|(a&!b))": "bcdef", "(b^(d^f))": "ace", "((a&c)|(!a&c))": "abdef",
		"(a&(b&(c&(d&(e&f)))))": "",
	} {
		d, _ := impl.DiagramOf(form)
		for v, letter := range "abcdef" {
			for _, yes := range []bool{false, true} {
				got, ok := impl.Restrict(d, v, yes)
				if same := sameDiagrams(got, d); !ok || same != strings.ContainsRune(without, letter) {
					t.Errorf("Restrict %q, %d, %v: %v, %v", form, v, yes, got, ok)
				}
			}
		}
	}
}

func TestNamedRestrictions(t *testing.T) {
	for _, c := range []struct {
		form string
		v    int
		yes  bool
		want string
	}{
		{"(a^b)", 0, true, "!b"}, {"(a^b)", 0, false, "b"}, {"(a^b)", 1, true, "!a"}, {"(a^b)", 1, false, "a"},
		{"(a&b)", 0, false, "0"}, {"(a&b)", 0, true, "b"}, {"(a|b)", 1, true, "1"}, {"(a|b)", 1, false, "a"},
		{"f", 5, true, "1"}, {"f", 5, false, "0"}, {"!a", 0, true, "0"}, {"!a", 0, false, "1"},
		// With b gone what b chose between is joined with what is there already.
		{"((a&b)|(!a&c))", 0, true, "b"}, {"((a&b)|(!a&c))", 1, true, "(a|c)"}, {"((a&b)|(!a&c))", 2, false, "(a&b)"},
		{"((a&(b|c))|(b&c))", 1, true, "(a|c)"}, {"((a&(b|c))|(b&c))", 1, false, "(a&c)"},
		{"(a^(b^(c^(d^(e^f)))))", 3, true, "!(a^(b^(c^(e^f))))"},
	} {
		d, _ := impl.DiagramOf(c.form)
		want, _ := impl.DiagramOf(c.want)
		if got, ok := impl.Restrict(d, c.v, c.yes); !ok || !sameDiagrams(got, want) {
			t.Errorf("Restrict %q, %d, %v: %v, %v, not %v", c.form, c.v, c.yes, got, ok, want)
		}
	}
}

func TestNamedCountsOfYes(t *testing.T) {
	for form, want := range map[string]int{
		"0": 0, "1": 64, "a": 32, "!f": 32, "(a^b)": 32, "(a&b)": 16, "(a|b)": 48, "(a&(b&(c&(d&(e&f)))))": 1, "(a|(b|(c|(d|(e|f)))))": 63, "((a&b)|c)": 40, "((a&(b|c))|(b&c))": 32,
	} {
		d, _ := impl.DiagramOf(form)
		if got, ok := impl.CountYes(d); got != want || !ok {
			t.Errorf("CountYes %q: %d, %v", form, got, ok)
		}
	}
}

// rootAt tells a diagram with another root.
func rootAt(d impl.Diagram, root int) impl.Diagram {
	return impl.Diagram{Choices: d.Choices, Root: root}
}

// manyChoices are so many choices, no two alike, as good as so many can be.
func manyChoices(count int) impl.Diagram {
	var d impl.Diagram
	for v := 5; v >= 0; v-- {
		below := len(d.Choices)
		for no := -2; no < below; no++ {
			for yes := -2; yes < below; yes++ {
				if no != yes && len(d.Choices) < count {
					d.Choices = append(d.Choices, impl.Choice{Var: v, No: no, Yes: yes})
				}
			}
		}
	}
	d.Root = len(d.Choices) - 1
	return d
}

// badDiagrams are diagrams that are not as said.
func badDiagrams() []impl.Diagram {
	good := diagramFrom([3]int{1, -2, -1}, [3]int{1, -1, -2}, [3]int{0, 0, 1})
	greatest, _ := tableByWords(greatestForms[0])
	great := diagramByWords(greatest)
	l := []impl.Diagram{
		{}, noneWith(0), noneWith(1), noneWith(-3), noneWith(math.MaxInt), noneWith(math.MinInt),
		manyChoices(30), manyChoices(69), manyChoices(70), manyChoices(71), manyChoices(3000),
		// A Var that is none, with and without others.
		diagramFrom([3]int{-1, -2, -1}), diagramFrom([3]int{6, -2, -1}), diagramFrom([3]int{math.MinInt, -2, -1}), diagramFrom([3]int{math.MaxInt, -2, -1}), diagramFrom([3]int{64, -2, -1}),
		diagramFrom([3]int{6, -2, -1}, [3]int{0, -2, 0}), diagramFrom([3]int{1, -2, -1}, [3]int{-1, -2, 0}),
		// No and Yes alike.
		diagramFrom([3]int{0, -2, -2}), diagramFrom([3]int{0, -1, -1}), diagramFrom([3]int{5, -2, -1}, [3]int{4, 0, 0}), diagramFrom([3]int{5, -2, -1}, [3]int{4, -1, -1}, [3]int{3, 0, 1}),
		// A node that is none.
		diagramFrom([3]int{0, -3, -1}), diagramFrom([3]int{0, -2, -3}), diagramFrom([3]int{0, -2, 1}), diagramFrom([3]int{0, 1, -1}), diagramFrom([3]int{0, math.MinInt, -1}), diagramFrom([3]int{0, -2, math.MaxInt}),
		diagramFrom([3]int{1, -2, -1}, [3]int{0, 0, 2}), diagramFrom([3]int{1, -2, -1}, [3]int{0, 0, math.MinInt}), diagramFrom([3]int{1, -2, -1}, [3]int{0, math.MaxInt, 0}),
		// A choice that comes to itself, and two that come to each other.
		diagramFrom([3]int{0, -2, 0}), diagramFrom([3]int{0, 0, -1}), diagramFrom([3]int{0, 0, 0}), diagramFrom([3]int{0, -2, 1}, [3]int{1, -2, 0}), diagramFrom([3]int{1, -2, 1}, [3]int{0, -2, 0}), diagramFrom([3]int{1, 1, -2}, [3]int{1, 0, -1}),
		// Below a choice one whose Var is the same, or less.
		diagramFrom([3]int{0, -2, -1}, [3]int{0, 0, -1}), diagramFrom([3]int{0, -2, -1}, [3]int{1, -2, 0}), diagramFrom([3]int{3, -2, -1}, [3]int{5, 0, -2}), diagramFrom([3]int{2, -2, -1}, [3]int{1, -2, 0}, [3]int{1, -1, 1}),
		// Two alike.
		diagramFrom([3]int{1, -2, -1}, [3]int{1, -2, -1}, [3]int{0, 0, 1}), diagramFrom([3]int{5, -2, -1}, [3]int{5, -2, -1}, [3]int{4, 0, -1}, [3]int{3, 1, 2}), diagramFrom([3]int{5, -2, -1}, [3]int{5, -2, -1}), diagramFrom([3]int{2, -2, -1}, [3]int{1, -2, 0}, [3]int{1, -2, 0}, [3]int{0, 1, 2}),
		// In another order: Yes ahead of No, the root first, what is below in the midst.
		diagramFrom([3]int{1, -1, -2}, [3]int{1, -2, -1}, [3]int{0, 1, 0}),
		{Choices: []impl.Choice{{Var: 0, No: 1, Yes: 2}, {Var: 1, No: -2, Yes: -1}, {Var: 1, No: -1, Yes: -2}}, Root: 0},
		diagramFrom([3]int{0, 1, 2}, [3]int{1, -2, -1}, [3]int{1, -1, -2}),
		diagramFrom([3]int{2, -2, -1}, [3]int{1, 0, -1}, [3]int{1, -2, 0}, [3]int{0, 2, 1}), diagramFrom([3]int{2, -2, -1}, [3]int{2, -1, -2}, [3]int{1, -2, 0}, [3]int{1, 1, -1}, [3]int{0, 2, 3}),
		// One that the root does not come to.
		diagramFrom([3]int{5, -2, -1}, [3]int{0, -2, -1}), diagramFrom([3]int{1, -2, -1}, [3]int{1, -1, -2}, [3]int{0, 0, -1}), diagramFrom([3]int{5, -2, -1}, [3]int{4, 0, -1}, [3]int{3, -2, 0}, [3]int{2, -1, 2}),
		// With choices the root is the last one alone.
		rootAt(good, 0), rootAt(good, 1), rootAt(good, 3), rootAt(good, -1), rootAt(good, -2), rootAt(good, -3), rootAt(good, math.MaxInt), rootAt(good, math.MinInt),
		rootAt(great, 0), rootAt(great, mostChoices-2), rootAt(great, mostChoices), rootAt(great, -1), rootAt(great, -2),
		rootAt(diagramFrom([3]int{0, -2, -1}), -1), rootAt(diagramFrom([3]int{0, -2, -1}), -2), rootAt(diagramFrom([3]int{0, -2, -1}), 1),
	}
	// A good one with others ahead of it or behind it, up to more than there may be.
	for _, count := range []int{30, 70, 71, 72, 1000} {
		l = append(l, impl.Diagram{Choices: append(slices.Clone(great.Choices), manyChoices(count-mostChoices).Choices...), Root: mostChoices - 1})
		l = append(l, impl.Diagram{Choices: slices.Concat(great.Choices, slices.Repeat(great.Choices[mostChoices-1:], count-mostChoices)), Root: count - 1})
	}
	return l
}

func TestBadDiagrams(t *testing.T) {
	for _, d := range badDiagrams() {
		holdDiagramRefused(t, d)
	}
}

func TestEverySmallDiagram(t *testing.T) {
	var choices []impl.Choice
	for _, v := range []int{-1, 0, 1, 5, 6} {
		for no := -3; no < 3; no++ {
			for yes := -3; yes < 3; yes++ {
				choices = append(choices, impl.Choice{Var: v, No: no, Yes: yes})
			}
		}
	}
	good := 0
	for _, a := range choices {
		for root := -3; root < 3; root++ {
			if holdEither(t, impl.Diagram{Choices: []impl.Choice{a}, Root: root}) {
				good++
			}
		}
		for _, b := range choices {
			for root := -3; root < 3; root++ {
				d := impl.Diagram{Choices: []impl.Choice{a, b}, Root: root}
				want := goodDiagramByWords(d)
				if impl.GoodDiagram(d) != want {
					t.Fatalf("GoodDiagram %v is not %v", d, want)
				}
				if want {
					holdDiagram(t, d)
					good++
				}
			}
		}
	}
	// Each of three variables, both ways round; and of each two of them the later one, both ways, as one way of the first one with yes or no the other way.
	if good != 3*2+3*2*4 {
		t.Error(good)
	}
}

// changedDiagrams are those that are unlike d in one number, or in the order of two choices, or have one less or more.
func changedDiagrams(d impl.Diagram) []impl.Diagram {
	var l []impl.Diagram
	change := func(how func(d *impl.Diagram)) {
		changed := copyDiagram(d)
		how(&changed)
		l = append(l, changed)
	}
	for i := range d.Choices {
		for _, by := range []int{-2, -1, 1, 2} {
			change(func(d *impl.Diagram) { d.Choices[i].Var += by })
			change(func(d *impl.Diagram) { d.Choices[i].No += by })
			change(func(d *impl.Diagram) { d.Choices[i].Yes += by })
		}
		change(func(d *impl.Diagram) { d.Choices[i].No, d.Choices[i].Yes = d.Choices[i].Yes, d.Choices[i].No })
		change(func(d *impl.Diagram) { d.Choices[i], d.Choices[0] = d.Choices[0], d.Choices[i] })
		change(func(d *impl.Diagram) { d.Choices = slices.Delete(d.Choices, i, i+1); d.Root-- })
		change(func(d *impl.Diagram) { d.Choices = slices.Insert(d.Choices, i, d.Choices[i]); d.Root++ })
		change(func(d *impl.Diagram) { d.Choices = append(d.Choices, d.Choices[i]); d.Root++ })
	}
	for root := -3; root <= len(d.Choices); root++ {
		change(func(d *impl.Diagram) { d.Root = root })
	}
	return l
}

func TestDiagramsThatAreChanged(t *testing.T) {
	good, bad := 0, 0
	for seed := range 60 {
		next := numbersFrom(uint64(33000 + seed))
		table := someTable(next)
		if seed%2 == 0 {
			table = tableOfFew(next)
		}
		for _, d := range changedDiagrams(diagramByWords(table)) {
			if goodDiagramByWords(d) {
				holdDiagram(t, d)
				good++
				continue
			}
			holdDiagramRefused(t, d)
			bad++
		}
	}
	if good < 100 || bad < 1000 {
		t.Error(good, bad)
	}
}

// inAnotherOrder lists a good diagram's choices in another order, each behind those that it comes to, with the numbers that they have then.
func inAnotherOrder(d impl.Diagram, next func(below int) int) impl.Diagram {
	numbers := make([]int, len(d.Choices))
	there := make([]bool, len(d.Choices))
	numberOf := func(node int) int {
		if node < 0 {
			return node
		}
		return numbers[node]
	}
	came := func(node int) bool { return node < 0 || there[node] }
	var other impl.Diagram
	for len(other.Choices) < len(d.Choices) {
		i := next(len(d.Choices))
		c := d.Choices[i]
		if there[i] || !came(c.No) || !came(c.Yes) {
			continue
		}
		there[i], numbers[i] = true, len(other.Choices)
		other.Choices = append(other.Choices, impl.Choice{Var: c.Var, No: numberOf(c.No), Yes: numberOf(c.Yes)})
	}
	other.Root = len(other.Choices) - 1
	return other
}

func TestOneOrderAlone(t *testing.T) {
	for seed := range 300 {
		next := numbersFrom(uint64(35000 + seed))
		d := diagramByWords(someTable(next))
		other := inAnotherOrder(d, next)
		if tableOfDiagram(d) != tableOfDiagram(other) {
			t.Fatal(d, other)
		}
		if sameDiagrams(d, other) {
			continue
		}
		holdDiagramRefused(t, other)
	}
}
