package tests

import (
	"fmt"
	"strconv"
	"strings"
	"testing"

	"loop.example/g00644/impl"
)

// checkStepTime steps once: a step takes at least four T and fewer than a hundred, also over the frame's end.
func checkStepTime(t *testing.T, how string, m impl.Machine) impl.Machine {
	t.Helper()
	x, code := impl.StepMachine(m)
	if code != impl.OK {
		t.Fatal(how, "StepMachine is", code)
	}
	time := x.T - m.T + 640*(x.Frames-m.Frames)
	if time < 4 || time >= 100 || !impl.MachineOK(x) {
		t.Fatal(how, "a step from", m.T, "of", fmt.Sprintf("%+v", m.Cpu), "takes", time)
	}
	return x
}

// checkFrameTime runs a frame: it goes over its end by fewer than a hundred T, which the next one has.
func checkFrameTime(t *testing.T, how string, m impl.Machine) impl.Machine {
	t.Helper()
	x, code := impl.RunFrame(m)
	if code != impl.OK || x.Frames != m.Frames+1 || x.T < 0 || x.T >= 100 || !impl.MachineOK(x) {
		t.Fatal(how, "RunFrame is", code, "at", x.Frames, x.T)
	}
	checkInterrupts(t, how, x.Events)
	checkToldInterrupts(t, how, x.Events)
	return x
}

// checkInterrupts asks the events of one frame: an interrupt is taken in the window alone, and once.
func checkInterrupts(t *testing.T, how string, list []impl.Event) {
	t.Helper()
	taken := 0
	for _, e := range list {
		if e.Kind == impl.EvInt {
			taken++
			if e.T >= 8 {
				t.Fatal(how, "an interrupt is taken at", e.T)
			}
		}
	}
	if taken > 1 {
		t.Fatal(how, "interrupts are taken", taken, "times:", list)
	}
}

// checkToldInterrupts asks the same of the events' texts: at most one has the word int, and its T is in the window.
func checkToldInterrupts(t *testing.T, how string, list []impl.Event) int {
	t.Helper()
	taken := 0
	for _, e := range list {
		text, code := impl.EventText(e)
		words := strings.Split(text, " ")
		if code != impl.OK || len(words) != 3 {
			t.Fatal(how, "the text of", e, "is", text, code)
		}
		if words[1] != "int" {
			continue
		}
		taken++
		if at, err := strconv.Atoi(words[0]); err != nil || at < 0 || at > 7 || taken > 1 {
			t.Fatalf("%s an interrupt is told by %q, as number %d", how, text, taken)
		}
	}
	return taken
}

// All frames of all programs, from all their starts, and of machines of all kinds: what is told of them has at most one interrupt a frame. Some let them in each frame, and there it is told.
func TestPromise15ToldByTexts(t *testing.T) {
	taken := map[string]int{}
	run := func(how string, m impl.Machine, frames int) {
		m.Frames = min(m.Frames, 1000)
		for range frames {
			var code int
			if m, code = impl.RunFrame(m); code != impl.OK {
				t.Fatal(how, "RunFrame is", code)
			}
			taken[how] += checkToldInterrupts(t, how, m.Events)
		}
	}
	eachStart(func(name string, m impl.Machine) { run(name, m, 40) })
	for _, m := range rightMachines() {
		run("a right one", m, 4)
	}
	l := lot(1503)
	for range 300 {
		run("a mixed one", l.someMachine(), 6)
	}
	for name, least := range map[string]int{"counts in the border, fresh": 39, "halted with interrupts, fresh": 39, "an interrupt that stays off, busy": 1, "a mixed one": 50} {
		if taken[name] < least {
			t.Error("of", name, "are told", taken[name], "interrupts")
		}
	}
	if n := taken["noughts, fresh"] + taken["stripes, fresh"] + taken["di ahead of the window, fresh"]; n != 0 {
		t.Error("where none is let there are told", n, "interrupts")
	}
}

// An interrupt that is let is told, in each T of the window and in no other one, with where it came.
func TestPromise15ToldOfTheWindow(t *testing.T) {
	for at := range 640 {
		m := newMachine(times(64, "\x00"))
		m.T, m.Cpu.Iff, m.Cpu.Pc = at, true, 50
		x, _ := impl.RunFrame(m)
		if at >= 8 {
			if n := checkToldInterrupts(t, "outside", x.Events); n != 0 {
				t.Error("at", at, "there are told", n, "interrupts")
			}
			continue
		}
		want := strconv.Itoa(at) + " int 50"
		if text, code := impl.EventText(x.Events[0]); text != want || code != impl.OK || len(x.Events) != 1 {
			t.Errorf("at %d is told %q of %d, not %q", at, text, len(x.Events), want)
		}
	}
}

func TestPromise15OfEachPair(t *testing.T) {
	l := lot(1500)
	for first := range 256 {
		for second := range 256 {
			m := newMachine(longText(64))
			m.Cpu, m.Memory, m.T = l.someCpu(), l.someMemory(), l.someT()
			m.Memory = placed(m.Cpu, m.Memory, first, second)
			checkStepTime(t, "a pair", m)
		}
	}
}

// Who waits longest: all that an instruction asks for is shared, from each T of a line of the screen on.
func TestPromise15OfWhoWaits(t *testing.T) {
	for _, r := range sampleInstrs() {
		for at := 120; at < 180; at++ {
			m := newMachine(longText(64))
			m.T, m.Cpu = at, plainCpu()
			m.Cpu.Pc, m.Cpu.Sp, m.Cpu.F = 70, 100, 255
			m.Cpu.Regs[2], m.Cpu.Regs[4] = 80, 90
			m.Memory = placed(m.Cpu, m.Memory, r.bytes...)
			checkStepTime(t, "a sample", m)
		}
	}
}

func TestPromise15OfEachProgram(t *testing.T) {
	eachStart(func(name string, m impl.Machine) {
		for range 8 {
			x := m
			for x.Frames == m.Frames {
				x = checkStepTime(t, name, x)
			}
			y := checkFrameTime(t, name, m)
			if x.T != y.T || x.Cpu != y.Cpu {
				t.Fatal(name, "what goes over the end is", y.T, "and by steps", x.T)
			}
			m = y
		}
	})
}

func TestPromise15OfMixedMachines(t *testing.T) {
	l := lot(1501)
	for range 300 {
		m := l.someMachine()
		m.Frames = l.below(1000)
		for range 5 {
			checkStepTime(t, "a mixed one", m)
			m = checkFrameTime(t, "a mixed one", m)
		}
	}
}

// The time of a frame goes on in the next one: all frames together are as long as they should be, but for what the last one went over.
func TestPromise15OfFramesTogether(t *testing.T) {
	eachStart(func(name string, m impl.Machine) {
		long := m
		long.Deck, long.Psg, long.PsgT = deckOf(mixedPulses(5000), 0, 1, false, true), impl.NewPsg(), 0
		for n := 1; n <= 9; n++ {
			from := long
			long = checkFrameTime(t, name, long)
			want, _ := runWritten(from.Deck, 640-from.T+long.T)
			if !alikeDecks(long.Deck, want) {
				t.Fatal(name, "the tape went on to", long.Deck.Index, long.Deck.Left, "not", want.Index, want.Left)
			}
		}
	})
}

// An interrupt that is let comes in each T of the window, and in no other one.
func TestPromise15OfTheWindow(t *testing.T) {
	for at := range 640 {
		for _, iff := range []bool{false, true} {
			for _, ei := range []bool{false, iff} {
				for _, halt := range []bool{false, true} {
					m := newMachine(times(64, "\x00"))
					m.T, m.Cpu.Iff, m.Cpu.Ei, m.Cpu.Halt = at, iff, ei, halt
					x := checkStepTime(t, "the window", m)
					want := at < 8 && iff && !ei
					if taken := x.Cpu.Pc == 56; taken != want || taken && (x.Cpu.Iff || x.Cpu.Halt) {
						t.Fatal("at", at, "Iff", iff, "Ei", ei, "Pc is", x.Cpu.Pc)
					}
				}
			}
		}
	}
}

// An interrupt that lets interrupts at once is still taken once in a frame: it takes longer than the window.
func TestPromise15OfInterruptsInARow(t *testing.T) {
	for _, lines := range [][]string{{"ei", "@56", "ei"}, {"ei", "@56", "ei", "ei"}, {"ei", "nop", "@56", "ei", "ret 7"}, {"ei", "halt", "jp 7 1", "@56", "ei", "halt"}} {
		m := newMachine(assembled(lines...))
		taken := 0
		for range 50 {
			m = checkFrameTime(t, "in a row", m)
			for _, e := range m.Events {
				if e.Kind == impl.EvInt {
					taken++
				}
			}
		}
		if taken < 48 {
			t.Error("of", lines, "interrupts are taken", taken, "times in 50 frames")
		}
	}
}

// alone is m with keys up, as a snapshot tells of no one who sits at the machine.
func alone(m impl.Machine) impl.Machine {
	m.Ports.Keys, m.Ports.Joy = [8]int{31, 31, 31, 31, 31, 31, 31, 31}, 0
	return m
}

// checkGoesOn saves m, has another machine with the same ROM, sound, tape and time load it, and runs both.
func checkGoesOn(t *testing.T, how string, m, other impl.Machine) {
	t.Helper()
	m = alone(m)
	saved, code := impl.ActDo(m, impl.Act{Kind: impl.AcSave})
	if code != impl.OK || saved.Saved == "" {
		t.Fatal(how, "AcSave is", code)
	}
	other = copyMachine(other)
	other.Memory.Rom = copyOf(m.Memory).Rom
	other.Psg, other.Deck, other.T, other.Frames, other.PsgT = saved.Psg, copyDeck(saved.Deck), saved.T, saved.Frames, saved.PsgT
	other.Saved, other.Events = saved.Saved, saved.Events
	loaded, code := impl.ActDo(other, impl.Act{Kind: impl.AcLoad})
	if code != impl.OK || !impl.SameMachine(loaded, saved) {
		t.Fatal(how, "AcLoad is", code, partsApart(loaded, saved))
	}
	for range 3 {
		saved, _ = impl.StepMachine(saved)
		loaded, _ = impl.StepMachine(loaded)
		checkMachine(t, how+" a step behind AcLoad", loaded, impl.OK, saved, impl.OK)
		saved, _ = impl.RunFrame(saved)
		loaded, _ = impl.RunFrame(loaded)
		checkMachine(t, how+" a frame behind AcLoad", loaded, impl.OK, saved, impl.OK)
	}
}

func TestPromise15OfSnapshotsThatGoOn(t *testing.T) {
	l := lot(1502)
	eachStart(func(name string, m impl.Machine) {
		for range 5 {
			checkGoesOn(t, name, m, l.someMachine())
			for range 1 + l.below(30) {
				m, _ = impl.StepMachine(m)
			}
			checkGoesOn(t, name, m, newMachine(longText(64)))
			m, _ = impl.RunFrame(m)
		}
	})
	for range 200 {
		checkGoesOn(t, "a mixed one", l.someMachine(), l.someMachine())
	}
}

// What went on behind AcSave is undone by AcLoad, but for sound, tape and time.
func TestPromise15OfSnapshotsThatComeBack(t *testing.T) {
	eachStart(func(name string, m impl.Machine) {
		if m.Frames > lastFrame-20 {
			return
		}
		saved, _ := impl.ActDo(alone(m), impl.Act{Kind: impl.AcSave})
		x := saved
		for range 3 {
			x, _ = impl.RunFrame(x)
		}
		back, code := impl.ActDo(x, impl.Act{Kind: impl.AcLoad})
		want := copyMachine(x)
		want.Cpu, want.Memory, want.Ports = saved.Cpu, saved.Memory, saved.Ports
		checkMachine(t, name, back, code, want, impl.OK)
	})
}
