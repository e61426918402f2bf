package tests

import (
	"fmt"
	"slices"
	"testing"

	"loop.example/g00644/impl"
)

// An alteration changes just one thing of a machine that is its own.
type alteration struct {
	name string
	make func(m *impl.Machine)
}

// besides are v with one bit changed, within the bounds, so that there is always another number.
func besides(v, least, most int) []int {
	var list []int
	for bit := range 20 {
		if x := v ^ 1<<bit; x >= least && x <= most {
			list = append(list, x)
		}
	}
	return list
}

func snapAlterations(m impl.Machine) []alteration {
	var list []alteration
	told, untold := changedOnce(impl.Snap{Cpu: m.Cpu, Memory: m.Memory, Ports: m.Ports})
	for _, other := range append(told, untold...) {
		if impl.SnapOK(other.s) {
			list = append(list, alteration{other.name, func(m *impl.Machine) { m.Cpu, m.Memory, m.Ports = other.s.Cpu, other.s.Memory, other.s.Ports }})
		}
	}
	return list
}

func psgAlterations(m impl.Machine) []alteration {
	var list []alteration
	for i, place := range psgPlaces(&m.Psg) {
		for _, v := range besides(*place.at, place.least, place.most) {
			list = append(list, alteration{place.name, func(m *impl.Machine) { *psgPlaces(&m.Psg)[i].at = v }})
		}
	}
	for i := range m.Psg.Out {
		list = append(list, alteration{fmt.Sprint("Out ", i), func(m *impl.Machine) { m.Psg.Out[i] = !m.Psg.Out[i] }})
	}
	return list
}

func deckAlterations(m impl.Machine) []alteration {
	list := []alteration{
		{"the level", func(m *impl.Machine) { m.Deck.Level = !m.Deck.Level }},
		{"a pulse more", func(m *impl.Machine) { m.Deck.Pulses = append(m.Deck.Pulses, 5) }},
	}
	d := m.Deck
	for i, v := range d.Pulses {
		if v < 1000 && i != d.Index {
			list = append(list, alteration{fmt.Sprint("pulse ", i), func(m *impl.Machine) { m.Deck.Pulses[i]++ }})
		}
	}
	if d.Index == len(d.Pulses) {
		return list
	}
	list = append(list, alteration{"whether it plays", func(m *impl.Machine) { m.Deck.Plays = !m.Deck.Plays }})
	for _, v := range besides(d.Left, 1, d.Pulses[d.Index]) {
		list = append(list, alteration{"Left", func(m *impl.Machine) { m.Deck.Left = v }})
	}
	for i, v := range d.Pulses {
		if v >= d.Left && i != d.Index {
			list = append(list, alteration{"Index", func(m *impl.Machine) { m.Deck.Index = i }})
		}
	}
	return list
}

func numberAlterations(m impl.Machine) []alteration {
	var list []alteration
	for _, v := range besides(m.T, 0, lastT) {
		list = append(list, alteration{"T", func(m *impl.Machine) { m.T = v }})
	}
	for _, v := range besides(m.Frames, 0, lastFrame) {
		list = append(list, alteration{"Frames", func(m *impl.Machine) { m.Frames = v }})
	}
	for _, v := range besides(m.PsgT, 0, 15) {
		list = append(list, alteration{"PsgT", func(m *impl.Machine) { m.PsgT = v }})
	}
	for i := range m.Saved {
		list = append(list, alteration{fmt.Sprint("Saved at ", i), func(m *impl.Machine) { m.Saved = m.Saved[:i] + string([]byte{m.Saved[i] ^ 1}) + m.Saved[i+1:] }})
	}
	if len(m.Saved) < mostSaved {
		list = append(list, alteration{"Saved, a byte more", func(m *impl.Machine) { m.Saved += "\x00" }})
	}
	if len(m.Saved) > 0 {
		list = append(list, alteration{"Saved, a byte less", func(m *impl.Machine) { m.Saved = m.Saved[1:] }}, alteration{"nothing Saved", func(m *impl.Machine) { m.Saved = "" }})
	}
	return list
}

func eventAlterations(m impl.Machine) []alteration {
	list := []alteration{{"an event more", func(m *impl.Machine) { m.Events = append(m.Events, impl.Event{T: 739, Kind: 1}) }}}
	for i, e := range m.Events {
		most := 739
		if i+1 < len(m.Events) {
			most = m.Events[i+1].T
		}
		if e.T < most {
			list = append(list, alteration{fmt.Sprint("T of event ", i), func(m *impl.Machine) { m.Events[i].T++ }})
		}
		for _, v := range besides(e.Kind, 1, 5) {
			list = append(list, alteration{fmt.Sprint("kind of event ", i), func(m *impl.Machine) { m.Events[i].Kind = v }})
		}
		for _, v := range besides(e.Value, 0, 255) {
			list = append(list, alteration{fmt.Sprint("byte of event ", i), func(m *impl.Machine) { m.Events[i].Value = v }})
		}
		list = append(list, alteration{fmt.Sprint("without event ", i), func(m *impl.Machine) { m.Events = slices.Delete(m.Events, i, i+1) }})
	}
	return list
}

// alteredOnce are m with one change each; all are right.
func alteredOnce(m impl.Machine) []namedMachine {
	var list []namedMachine
	for _, a := range slices.Concat(snapAlterations(m), psgAlterations(m), deckAlterations(m), numberAlterations(m), eventAlterations(m)) {
		other := copyMachine(m)
		a.make(&other)
		list = append(list, namedMachine{a.name, other})
	}
	return list
}

func TestSameMachineOfTwoThatDifferOnce(t *testing.T) {
	l := lot(1402)
	for _, m := range []impl.Machine{newMachine(longText(64)), plainMachine(), l.someMachine(), l.someMachine()} {
		for _, other := range alteredOnce(m) {
			if !impl.MachineOK(other.m) {
				t.Fatal("with another", other.name, "a machine is not right")
			}
			if impl.SameMachine(m, other.m) || impl.SameMachine(other.m, m) {
				t.Error("with another", other.name, "SameMachine is true")
			}
			if !impl.SameMachine(other.m, copyMachine(other.m)) {
				t.Error("with another", other.name, "a machine is not like itself")
			}
		}
	}
}

func TestSameMachineOfEachTwo(t *testing.T) {
	list := rightMachines()
	for i, a := range list {
		for k := range 25 {
			b := list[(i+k*k)%len(list)]
			if want := alikeMachines(a, b); impl.SameMachine(a, b) != want {
				t.Fatal("SameMachine of", short(a), "and", short(b), "is not", want)
			}
		}
	}
}

func TestSameMachineOfWrongOnes(t *testing.T) {
	list := wrongMachines()
	for i, w := range list {
		for _, k := range []int{0, 1, 7, 100} {
			other := list[(i+k)%len(list)]
			if impl.SameMachine(w.m, other.m) {
				t.Error("a wrong", w.name, "is like a wrong", other.name)
			}
		}
	}
}

// A list that is empty is as one that is nil.
func TestSameMachineOfEmptyLists(t *testing.T) {
	a := plainMachine()
	a.Deck, a.Events = impl.Deck{}, nil
	b := copyMachine(a)
	b.Deck.Pulses, b.Events = []int{}, []impl.Event{}
	if !impl.SameMachine(a, b) || !impl.SameMachine(b, a) || !impl.MachineOK(b) {
		t.Error("empty lists are not like nil")
	}
}
