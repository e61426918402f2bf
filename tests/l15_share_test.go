package tests

import (
	"slices"
	"strings"
	"testing"

	"loop.example/g00644/impl"
)

func TestMachinesThatAreToldStay(t *testing.T) {
	list := sharers()
	for _, w := range wrongMachines() {
		list = append(list, w.m)
	}
	for _, from := range list {
		r := roomyMachineOf(from)
		impl.CpuText(r.m.Cpu)
		impl.MachineLines(r.m)
		impl.ScreenLines(r.m)
		for _, e := range r.m.Events {
			impl.EventText(e)
		}
		if !r.isAs(from) {
			t.Fatal("a machine that was told is changed:", short(from), partsApart(r.m, from))
		}
	}
}

// What was handed in is written over, and the answers stay.
func TestLinesOwnTheirMemory(t *testing.T) {
	for _, from := range sharers() {
		r := roomyMachineOf(from)
		saved, bytes := unsafeText(from.Saved)
		r.m.Saved = saved
		lines, _ := impl.MachineLines(r.m)
		screen, _ := impl.ScreenLines(r.m)
		for _, line := range slices.Concat(lines, screen) {
			if liesIn(line, saved) {
				t.Error("a line lies in what was Saved:", line)
			}
		}
		scribbleMachine(r.m)
		clear(bytes)
		if !slices.Equal(lines, linesWritten(from)) || !slices.Equal(screen, screenWritten(from)) {
			t.Fatal("lines share memory with their machine:", lines, screen)
		}
	}
}

// scribbleTexts writes into all the memory that a list of texts has.
func scribbleTexts(list []string) {
	for i := range list[:cap(list)] {
		list[:cap(list)][i] = "-"
	}
}

func TestListsOfLinesShareNothingWithEachOther(t *testing.T) {
	for _, from := range sharers() {
		code := cellsOf(romOf(impl.Snap{Memory: from.Memory}))
		for name, call := range map[string]func() []string{
			"MachineLines": func() []string { list, _ := impl.MachineLines(from); return list },
			"ScreenLines":  func() []string { list, _ := impl.ScreenLines(from); return list },
			"ListCode":     func() []string { list, _ := impl.ListCode(code); return list },
		} {
			first, second := call(), call()
			want := slices.Clone(first)
			scribbleTexts(first)
			if !slices.Equal(second, want) || !slices.Equal(call(), want) {
				t.Fatal("two answers of", name, "share memory")
			}
		}
	}
}

func TestListsOfCodeStay(t *testing.T) {
	l := lot(1540)
	for _, n := range []int{0, 1, 2, 3, 15, 16, 64, 254, 255, 256, 257, 1000, impl.MaxList, impl.MaxList + 1} {
		for _, wrong := range []int{-1, 0, n / 2, n - 1} {
			bytes := l.someCode(n)
			if wrong >= 0 && wrong < n {
				bytes[wrong] = 256
			}
			given, wide := roomyNumbers(bytes)
			want := slices.Clone(wide)
			list, code := impl.ListCode(given)
			if !slices.Equal(wide, want) {
				t.Fatal("ListCode changes its list of", n)
			}
			clear(wide)
			if code == impl.OK && !slices.Equal(list, listWritten(bytes)) {
				t.Fatal("what ListCode answers shares memory with its list of", n)
			}
		}
	}
}

func TestTextsOfActsStay(t *testing.T) {
	texts := append(anyTexts(), "  key 2 1 down ", "key 2 1", "frames 7", times(impl.MaxText-4, " ")+"play", times(impl.MaxText, " ")+"play")
	for _, a := range rightActs() {
		texts = append(texts, actTextWritten(a), " "+strings.ToUpper(actTextWritten(a)))
	}
	for _, s := range texts {
		given, bytes := unsafeText(s)
		first, code := impl.ReadAct(given)
		if string(bytes) != s+"behind" {
			t.Fatal("a text that was handed in is changed:", short(s))
		}
		clear(bytes)
		if again, codeAgain := impl.ReadAct(s); again != first || codeAgain != code {
			t.Fatal("ReadAct of", short(s), "is", first, code, "and then", again, codeAgain)
		}
	}
}
