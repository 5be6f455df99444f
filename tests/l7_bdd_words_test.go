package tests

import (
	"slices"
	"strings"

	"loop.example/g00269/impl"
)

// All bits at which something is decided.
const allBits = 64

// No diagram of six variables has more choices: one of a, 2 of b, 4 of c, 8 of d, and of e and f as many as there are decisions that begin with them, 12 and 2.
const mostChoices = 29

// greatestForms have diagrams of mostChoices.
var greatestForms = []string{
	"(((e&(!a^f))|!(!((f|c)^d)|(d^e)))^(!(!f^(d^d))|b))",
	"((!(e^!c)&a)|!((!(!d^!e)^f)|!(f^!(!(f&!(!c^d))^(b|b)))))",
	"(((((c&e)|(((e^!f)^c)^(c&a)))&(e|(d^(a^b))))^((b&b)&e))^!d)",
	"((c^(e^(!f|(d|(e&c)))))^(!((!a^(b&d))^(f&((f&b)^d)))|(e^f)))",
	"((e|!((!a|d)^(d&((((!a|(e|e))|c)^f)^d))))^((e&(f&c))^(b^d)))",
}

// shorter writes the value of a small form in its place.
var shorter = strings.NewReplacer(
	"!0", "1", "!1", "0",
	"(0&0)", "0", "(0&1)", "0", "(1&0)", "0", "(1&1)", "1",
	"(0|0)", "0", "(0|1)", "1", "(1|0)", "1", "(1|1)", "1",
	"(0^0)", "0", "(0^1)", "1", "(1^0)", "1", "(1^1)", "0",
)

// valueByWords writes a text shorter as long as it can be: of a form without variables its value is left, of any other text something else.
func valueByWords(s string) string {
	for {
		next := shorter.Replace(s)
		if next == s {
			return s
		}
		s = next
	}
}

// withBits writes 0 and 1 in the place of the variables.
func withBits(s string, n int) string {
	text := []byte(s)
	for i, c := range text {
		if at := strings.IndexByte("abcdef", c); at >= 0 {
			text[i] = "01"[n>>at&1]
		}
	}
	return string(text)
}

func tableByWords(s string) (string, bool) {
	if len(s) > 60 {
		return "", false
	}
	table := ""
	for n := range allBits {
		value := valueByWords(withBits(s, n))
		if value != "0" && value != "1" {
			return "", false
		}
		table += value
	}
	return table, true
}

// halves parts a table by its first variable: where it is 0, and where it is 1.
func halves(table string) (string, string) {
	var no, yes []byte
	for n := 0; n < len(table); n += 2 {
		no = append(no, table[n])
		yes = append(yes, table[n+1])
	}
	return string(no), string(yes)
}

// diagramByWords makes the diagram of a table; what is left of a table when it is halved has the later variables alone.
func diagramByWords(table string) impl.Diagram {
	variables := map[int]int{64: 0, 32: 1, 16: 2, 8: 3, 4: 4, 2: 5}
	var d impl.Diagram
	met := map[string]int{}
	var nodeOf func(table string) int
	nodeOf = func(table string) int {
		if !strings.Contains(table, "1") {
			return -2
		}
		if !strings.Contains(table, "0") {
			return -1
		}
		if node, ok := met[table]; ok {
			return node
		}
		firstNo, firstYes := halves(table)
		if firstNo == firstYes {
			return nodeOf(firstNo)
		}
		no := nodeOf(firstNo)
		yes := nodeOf(firstYes)
		d.Choices = append(d.Choices, impl.Choice{Var: variables[len(table)], No: no, Yes: yes})
		met[table] = len(d.Choices) - 1
		return met[table]
	}
	d.Root = nodeOf(table)
	return d
}

// choicesByWords puts behind l what a node comes to: its No with all below it, as far as not there yet, then its Yes so, then itself.
func choicesByWords(d impl.Diagram, node int, l []int) []int {
	if node < 0 || slices.Contains(l, node) {
		return l
	}
	l = choicesByWords(d, d.Choices[node].No, l)
	l = choicesByWords(d, d.Choices[node].Yes, l)
	return append(l, node)
}

func goodChoiceByWords(d impl.Diagram, number int) bool {
	c := d.Choices[number]
	if c.Var < 0 || c.Var > 5 || c.No == c.Yes || slices.Contains(d.Choices[:number], c) {
		return false
	}
	for _, node := range []int{c.No, c.Yes} {
		if node == -2 || node == -1 {
			continue
		}
		if node < 0 || node >= len(d.Choices) || d.Choices[node].Var <= c.Var {
			return false
		}
	}
	return true
}

func goodDiagramByWords(d impl.Diagram) bool {
	if len(d.Choices) == 0 {
		return d.Root == -2 || d.Root == -1
	}
	if len(d.Choices) > 70 || d.Root != len(d.Choices)-1 {
		return false
	}
	for number := range d.Choices {
		if !goodChoiceByWords(d, number) {
			return false
		}
	}
	return slices.Equal(choicesByWords(d, d.Root, nil), numbersBelow(len(d.Choices)))
}

// tableOfDiagram goes through a good diagram at all bits.
func tableOfDiagram(d impl.Diagram) string {
	table := make([]byte, allBits)
	for n := range table {
		node := d.Root
		for node >= 0 {
			c := d.Choices[node]
			node = []int{c.No, c.Yes}[n>>c.Var&1]
		}
		table[n] = map[int]byte{-2: '0', -1: '1'}[node]
	}
	return string(table)
}

func restrictByWords(table string, v int, yes bool) string {
	restricted := make([]byte, allBits)
	for n := range restricted {
		restricted[n] = table[n&^(1<<v)]
		if yes {
			restricted[n] = table[n|1<<v]
		}
	}
	return string(restricted)
}

func bothByWords(a string, b string) string {
	both := make([]byte, allBits)
	for n := range both {
		both[n] = min(a[n], b[n])
	}
	return string(both)
}

func notByWords(table string) string {
	return strings.NewReplacer("0", "1", "1", "0").Replace(table)
}

func sameDiagrams(a impl.Diagram, b impl.Diagram) bool {
	return a.Root == b.Root && slices.Equal(a.Choices, b.Choices)
}

func isZeroDiagram(d impl.Diagram) bool {
	return d.Root == 0 && len(d.Choices) == 0
}

// diagramFrom has a row for each choice; its root is the last one.
func diagramFrom(rows ...[3]int) impl.Diagram {
	d := impl.Diagram{Root: len(rows) - 1}
	for _, row := range rows {
		d.Choices = append(d.Choices, impl.Choice{Var: row[0], No: row[1], Yes: row[2]})
	}
	return d
}

// noneWith has no choices.
func noneWith(root int) impl.Diagram {
	return impl.Diagram{Root: root}
}

func copyDiagram(d impl.Diagram) impl.Diagram {
	return impl.Diagram{Choices: slices.Clone(d.Choices), Root: d.Root}
}

// someForm draws a form of at most so many bytes.
func someForm(most int, next func(below int) int) string {
	switch {
	case most > 1 && next(5) == 0:
		return "!" + someForm(most-1, next)
	case most < 5 || next(10) == 0:
		return string("abcdefabcdefabcdef01"[next(20)])
	}
	x := someForm(1+next(most-4), next)
	y := someForm(most-3-len(x), next)
	return "(" + x + string("&|^"[next(3)]) + y + ")"
}

// someTable draws decisions: few yes, as many as no, or many.
func someTable(next func(below int) int) string {
	table := make([]byte, allBits)
	often := 1 + next(9)
	for n := range table {
		table[n] = '0'
		if next(10) < often {
			table[n] = '1'
		}
	}
	return string(table)
}

// tableOfFew draws decisions in which some variables have no say.
func tableOfFew(next func(below int) int) string {
	table := someTable(next)
	for range 1 + next(5) {
		table = restrictByWords(table, next(6), next(2) == 0)
	}
	return table
}

// everyTableOf goes through all decisions in which just these three variables may have a say.
func everyTableOf(variables [3]int, use func(table string)) {
	for decided := range 256 {
		table := make([]byte, allBits)
		for n := range table {
			at := n>>variables[0]&1 | n>>variables[1]&1<<1 | n>>variables[2]&1<<2
			table[n] = '0' + byte(decided>>at&1)
		}
		use(string(table))
	}
}

// everyForm tells all forms of so many bytes, with all letters that there are.
func everyForm(length int) []string {
	if length < 1 {
		return nil
	}
	if length == 1 {
		return strings.Split("01abcdef", "")
	}
	var l []string
	for _, x := range everyForm(length - 1) {
		l = append(l, "!"+x)
	}
	for left := 1; left <= length-4; left++ {
		for _, x := range everyForm(left) {
			for _, y := range everyForm(length - 3 - left) {
				l = append(l, "("+x+"&"+y+")", "("+x+"|"+y+")", "("+x+"^"+y+")")
			}
		}
	}
	return l
}

// formOff takes a byte out of a form, puts one in, or writes one over another.
func formOff(s string, next func(below int) int) string {
	at := next(len(s))
	sign := string("01abcdefgA2!()&|^ ~\x00\xff"[next(21)])
	return changedAt(s, at, sign, next(3))
}
