package tests

import (
	"slices"
	"testing"

	"loop.example/g00269/impl"
)

// holdScriptMemory holds that no answer shares memory with the script, with another answer or within itself, and that nothing is kept from call to call.
func holdScriptMemory(t *testing.T, lines ...string) {
	t.Helper()
	script := scriptOf(lines...)
	answers, s := playLines(lines)
	want := scriptOf(answers...)
	text := freshText(script)
	told, again := impl.RunWorld(text), impl.RunWorld(text)
	if told != want || again != want || shareBytes(told, text) || shareBytes(told, again) {
		t.Fatalf("RunWorld %q: %q, %q, or they share memory", script, told, again)
	}
	for range 2 {
		world, wheel, ok := impl.WorldOf(text)
		other, otherWheel, also := impl.WorldOf(text)
		if !ok || !also || !sameWorlds(world, s.world) || !sameWheels(wheel, s.wheel) {
			t.Fatalf("WorldOf %q: %v, %v, %v, not %v", script, world, wheel, ok, s)
		}
		holdNothingBehindWorld(t, world)
		holdNothingBehind(t, wheel)
		holdWorldApart(t, world, append(namesOfWorld(other), text, told))
		fillWorld(world)
		fillWheel(t, wheel)
		for slot := range wheel.Slots[:cap(wheel.Slots)] {
			wheel.Slots[:cap(wheel.Slots)][slot] = nil
		}
		if !sameWorlds(other, s.world) || !sameWheels(otherWheel, s.wheel) {
			t.Fatalf("WorldOf %q: two answers share memory", script)
		}
	}
	if text != script || impl.RunWorld(text) != want {
		t.Fatalf("RunWorld %q: the script is written into, or an answer was kept", script)
	}
}

func TestScriptsAreLeftAlone(t *testing.T) {
	holdScriptMemory(t)
	holdScriptMemory(t, parted...)
	holdScriptMemory(t, slices.Concat(parted, goodLines())...)
	holdScriptMemory(t, slices.Concat(parted, goodLines(), []string{"settle", "timer 20 9", "say 1", "twice 0", "call 1 4 late", "state 0"})...)
	for _, l := range goodLines() {
		holdScriptMemory(t, append(slices.Clone(parted), "timer 100 6", l)...)
		holdScriptMemory(t, append(slices.Clone(parted), l, l, "say 0", "timer 100 6", "tick 3")...)
	}
	holdScriptMemory(t, append(repeated(append(slices.Clone(parted), "call 1 3 "+longestName), "say 1", 17), "hear 3", "lose 4", "twice 5", "reapply 1")...)
	holdScriptMemory(t, repeated(begun[:1], "call 0 3 "+longestName, 62)...)
	holdScriptMemory(t, repeated(parted, "timer 511 7", 3)...)
}

func TestManyScriptsAreLeftAlone(t *testing.T) {
	for seed := range 60 {
		next := numbersFrom(uint64(115000 + seed))
		lines := slices.Clone(parted)
		_, s := playLines(lines)
		for range oneOfNumbers(next, 5, 20, 40) {
			l := someLine(s, next)
			s.answer(l)
			lines = append(lines, l)
		}
		if _, ok := linesByWords(scriptOf(lines...)); ok {
			holdScriptMemory(t, lines...)
		}
	}
}

// Of one answer nothing comes into the next one, whichever script was asked of ahead of it.
func TestScriptsDoNotHangOnEachOther(t *testing.T) {
	scripts := []string{"", scriptOf("leaders"), scriptOf(parted...), scriptOf(append(slices.Clone(parted), "settle", "state 0")...), scriptOf("timer 9 1", "tick 9"), scriptOf("fly"), "no script", scriptOf(repeated(nil, "say 0", 21)...)}
	for _, ahead := range scripts {
		for _, text := range scripts {
			impl.RunWorld(ahead)
			impl.WorldOf(ahead)
			holdScript(t, text)
		}
	}
	// The memory of a script may be a piece of a longer one.
	long := freshText(scriptOf(slices.Concat(parted, goodLines())...))
	for from := range len(scriptOf(parted...)) {
		for _, to := range []int{len(scriptOf(parted...)), len(long)} {
			holdScript(t, long[from:to])
		}
	}
}
