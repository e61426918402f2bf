package tests

import (
	"slices"
	"testing"

	"loop.example/g00644/impl"
)

// A roomyMachine has room behind the end of each of its lists.
type roomyMachine struct {
	m      impl.Machine
	cells  [][]int
	pulses []int
	events []impl.Event
}

func roomyMachineOf(from impl.Machine) roomyMachine {
	r := roomyMachine{m: copyMachine(from)}
	r.m.Memory, r.cells = roomy(from.Memory)
	r.m.Deck.Pulses, r.pulses = roomyNumbers(from.Deck.Pulses)
	r.events = append(slices.Clone(from.Events), event(1, 1, 1), event(2, 2, 2), event(3, 3, 3))
	r.m.Events = r.events[:len(from.Events)]
	return r
}

// isAs tells whether nothing was written into r, nor behind the ends of its lists.
func (r roomyMachine) isAs(from impl.Machine) bool {
	for _, room := range r.cells {
		if !slices.Equal(room[len(room)-3:], []int{behindEnd, behindEnd, behindEnd}) {
			return false
		}
	}
	n := len(from.Deck.Pulses)
	return alikeMachines(r.m, from) && slices.Equal(r.pulses[n:], []int{behindEnd, behindEnd + 1, behindEnd + 2}) &&
		slices.Equal(r.events[len(from.Events):], []impl.Event{event(1, 1, 1), event(2, 2, 2), event(3, 3, 3)})
}

// scribbleMachine writes into all the memory that a machine has.
func scribbleMachine(m impl.Machine) {
	scribble(m.Memory)
	scribbleNumbers(m.Deck.Pulses)
	all := m.Events[:cap(m.Events)]
	for i := range all {
		all[i] = event(-9, -9, -9)
	}
}

// everyKindOfAct is one of each kind.
func everyKindOfAct() []impl.Act {
	return []impl.Act{{Kind: 1, A: 3, B: 2, Down: true}, {Kind: 2, A: 9}, {Kind: 3}, {Kind: 4}, {Kind: 5}, {Kind: 6}, {Kind: 6, A: 2}, {Kind: 7}, {Kind: 8}, {}}
}

// machineAnswers are the machines that each call answers which takes one, each of a call of its own.
func machineAnswers(m impl.Machine) []namedMachine {
	step, _ := impl.StepMachine(m)
	frame, _ := impl.RunFrame(m)
	list := []namedMachine{{"StepMachine", step}, {"RunFrame", frame}}
	for _, a := range everyKindOfAct() {
		x, _ := impl.ActDo(m, a)
		list = append(list, namedMachine{"ActDo", x})
	}
	return list
}

// sharers are machines whose answers come with each code, and whose steps write to each list.
func sharers() []impl.Machine {
	var list []impl.Machine
	eachStart(func(name string, m impl.Machine) { list = append(list, m) })
	full := plainMachine()
	full.Frames = lastFrame
	saved := plainMachine()
	saved.Saved = snapWritten(plainSnap())
	spoiltOne := plainMachine()
	spoiltOne.Saved = "\x03"
	full1000 := newMachine(programs()["stripes"])
	full1000.Events = sameEvents(mostEvents, event(0, 1, 1))
	return append(list, plainMachine(), full, saved, spoiltOne, full1000, newMachine(longText(64)))
}

func TestMachinesThatAreHandedInStay(t *testing.T) {
	list := sharers()
	for _, w := range wrongMachines() {
		list = append(list, w.m)
	}
	for _, from := range list {
		r := roomyMachineOf(from)
		cycles := []impl.Cycle{{Kind: 1, Address: 64}, {Kind: 5}, {}}
		machineAnswers(r.m)
		impl.MachineOK(r.m)
		impl.CyclesTime(r.m, cycles[:2])
		impl.CyclesTime(r.m, cycles)
		impl.PortValue(r.m, 129)
		impl.SameMachine(r.m, r.m)
		impl.SameMachine(r.m, from)
		impl.SameMachine(from, r.m)
		if !r.isAs(from) {
			t.Fatal("a machine that was handed in is changed:", short(from), partsApart(r.m, from))
		}
		if !slices.Equal(cycles, []impl.Cycle{{Kind: 1, Address: 64}, {Kind: 5}, {}}) {
			t.Fatal("cycles that were handed in are changed to", cycles)
		}
	}
}

// An answer is written over, and what was handed in stays; what was handed in is written over, and the answers stay.
func TestAnswersOfMachinesShareNothingWithArguments(t *testing.T) {
	for _, from := range sharers() {
		r := roomyMachineOf(from)
		for _, x := range machineAnswers(r.m) {
			scribbleMachine(x.m)
			if !r.isAs(from) {
				t.Fatal("what", x.name, "answers is written into its argument")
			}
		}
		answers := machineAnswers(r.m)
		scribbleMachine(r.m)
		clear(r.pulses)
		for i, x := range machineAnswers(from) {
			if !alikeMachines(answers[i].m, x.m) {
				t.Fatal("what", x.name, "answers is that of its argument", partsApart(answers[i].m, x.m))
			}
		}
	}
}

func TestAnswersOfMachinesShareNothingWithEachOther(t *testing.T) {
	for _, m := range []impl.Machine{plainMachine(), newMachine(programs()["stripes"]), sharers()[0]} {
		want, first, second := machineAnswers(m), machineAnswers(m), machineAnswers(m)
		for i, x := range first {
			scribbleMachine(x.m)
			for j, y := range second {
				if !alikeMachines(y.m, want[j].m) || j > i && !alikeMachines(first[j].m, want[j].m) {
					t.Fatal("answers of", x.name, "and", y.name, "share memory")
				}
			}
		}
	}
}

// Each list of an answer is a list of its own: what is written behind the end of one, where there is room, is in no other.
func TestListsOfAMachineShareNothing(t *testing.T) {
	for _, from := range sharers() {
		for _, x := range machineAnswers(from) {
			lists := append([][]int{x.m.Memory.Rom, x.m.Deck.Pulses}, x.m.Memory.Ram...)
			for i, list := range lists {
				wide := list[:cap(list)]
				for k := range wide {
					wide[k] = 10000 + i
				}
				for j, others := range lists {
					if j != i && slices.Contains(others, 10000+i) {
						t.Fatal("lists of what", x.name, "answers share memory:", i, j)
					}
				}
			}
		}
	}
}

// What was saved is a text of its own, as all else is.
func TestSavedTextsAreTheirOwn(t *testing.T) {
	for _, s := range []string{snapWritten(plainSnap()), "a text", longText(mostSaved)} {
		text, bytes := unsafeText(s)
		m := plainMachine()
		m.Saved = text
		answers := machineAnswers(m)
		if string(bytes) != s+"behind" {
			t.Fatal("what was Saved is changed")
		}
		want := copyMachine(m)
		want.Saved = s
		for i, x := range machineAnswers(want) {
			if liesIn(answers[i].m.Saved, text) {
				t.Error("what", x.name, "answers has the text of its argument")
			}
		}
		clear(bytes)
		for i, x := range machineAnswers(want) {
			if !alikeMachines(answers[i].m, x.m) {
				t.Error("what", x.name, "answers hangs on the text of its argument")
			}
		}
	}
}

func TestNewMachinesShareNothing(t *testing.T) {
	for n := range impl.MaxBlocks + 2 {
		list, wide := roomyTape(tapeOf(n))
		want := slices.Clone(wide)
		rom, bytes := unsafeText(longText(64))
		acts := []impl.Act{{Kind: 3}, {Kind: 6, A: 1}, {Kind: 7}, {Kind: 8}}
		roomyActs := append(slices.Clone(acts), impl.Act{Kind: -5}, impl.Act{Kind: -6})
		first, code := impl.NewMachine(rom, list)
		ran, codes, _ := impl.ActsRun(rom, list, roomyActs[:4])
		again, _, _ := impl.ActsRun(rom, list, roomyActs[:4])
		if string(bytes) != longText(64)+"behind" || !slices.Equal(wide, want) || !slices.Equal(roomyActs, append(acts, impl.Act{Kind: -5}, impl.Act{Kind: -6})) {
			t.Fatal("what was handed in is changed")
		}
		if n > impl.MaxBlocks {
			continue
		}
		clear(bytes)
		clear(wide)
		clear(roomyActs)
		fresh := newMachine(longText(64))
		fresh.Deck = impl.Deck{Pulses: tapePulsesWritten(tapeOf(n)...)}
		tapeActWritten(&fresh, 5)
		checkMachine(t, "NewMachine", first, code, fresh, impl.OK)
		scribbleMachine(ran)
		scribbleNumbers(codes)
		later, laterCodes, _ := impl.ActsRun(longText(64), tapeOf(n), acts)
		if !alikeMachines(again, later) || len(laterCodes) != 4 || laterCodes[3] != 0 {
			t.Fatal("two answers of ActsRun share memory")
		}
	}
}
