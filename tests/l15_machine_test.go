package tests

import (
	"fmt"
	"slices"
	"strings"
	"testing"

	"loop.example/g00644/impl"
)

// linesWritten are the chapter's sentence, line by line.
func linesWritten(m impl.Machine) []string {
	locked, plays := "", "stopped"
	if m.Memory.Locked {
		locked = " locked"
	}
	if m.Deck.Plays {
		plays = "plays"
	}
	return []string{
		cpuTextWritten(m.Cpu),
		fmt.Sprintf("frame %d t %d border %d", m.Frames, m.T, m.Ports.Border),
		fmt.Sprintf("page %d screen %d%s", m.Memory.Page, m.Memory.Screen, locked),
		fmt.Sprintf("tape %d of %d %s", m.Deck.Index, len(m.Deck.Pulses), plays),
		fmt.Sprintf("level %d events %d", channelWritten(m.Psg, 0)+channelWritten(m.Psg, 1), len(m.Events)),
	}
}

func checkLines(t *testing.T, how string, m impl.Machine, want ...string) {
	t.Helper()
	if list, code := impl.MachineLines(m); !slices.Equal(list, want) || code != impl.OK {
		t.Fatalf("%s: MachineLines is %q %d, not %q", how, list, code, want)
	}
}

// checkLine asks for one line of a machine; the others stay those of from.
func checkLine(t *testing.T, from impl.Machine, line int, want string, change func(m *impl.Machine)) {
	t.Helper()
	m := copyMachine(from)
	change(&m)
	lines := linesWritten(from)
	lines[line] = want
	checkLines(t, want, m, lines...)
}

func TestMachineLinesByHand(t *testing.T) {
	checkLines(t, "a new one", newMachine(longText(64)), "b00 c00 d00 e00 h00 l00 a00 f00 spff pc00", "frame 0 t 0 border 7", "page 0 screen 1", "tape 0 of 43 stopped", "level 0 events 0")
	m := plainMachine()
	m.Psg = impl.Psg{Regs: [8]int{3: 15, 4: 11, 5: 9}, Shift: 1}
	m.Memory.Locked = true
	checkLines(t, "a plain one", m, "b10 c21 d82 e31 h64 l42 a4d fd5 spaa pcc8 ei halt", "frame 77 t 300 border 2", "page 2 screen 3 locked", "tape 7 of 30 plays", "level 20 events 5")
	one, _ := impl.NewMachine(longText(64), nil)
	checkLines(t, "one without a tape", one, "b00 c00 d00 e00 h00 l00 a00 f00 spff pc00", "frame 0 t 0 border 7", "page 0 screen 1", "tape 0 of 0 stopped", "level 0 events 0")
}

func TestMachineLinesOfNewOnes(t *testing.T) {
	for n := range impl.MaxBlocks + 1 {
		m, _ := impl.NewMachine(longText(64), tapeOf(n))
		checkLines(t, "a new one", m, "b00 c00 d00 e00 h00 l00 a00 f00 spff pc00", "frame 0 t 0 border 7", "page 0 screen 1", fmt.Sprintf("tape 0 of %d stopped", len(tapePulsesWritten(tapeOf(n)...))), "level 0 events 0")
	}
}

func TestMachineLinesOfRightMachines(t *testing.T) {
	for _, m := range rightMachines() {
		checkLines(t, "a right one", m, linesWritten(m)...)
	}
}

// Machines that run tell what they came to, step by step and frame by frame.
func TestMachineLinesOfOnesThatHaveRun(t *testing.T) {
	eachStart(func(name string, m impl.Machine) {
		for range 20 {
			m, _ = impl.StepMachine(m)
			checkLines(t, name, m, linesWritten(m)...)
		}
		for range 5 {
			m, _ = impl.RunFrame(m)
			checkLines(t, name, m, linesWritten(m)...)
		}
	})
	for n := range 7 {
		m, _, code := impl.ActsRun(programs()["counts in the border"], tapeOf(1), []impl.Act{{Kind: 3}, {Kind: 6, A: n}})
		if code != impl.OK {
			t.Fatal("ActsRun is", code)
		}
		checkLines(t, "one that has run", m, linesWritten(m)...)
	}
}

func TestFrameLine(t *testing.T) {
	for _, from := range []impl.Machine{newMachine(longText(64)), plainMachine()} {
		for _, v := range []int{0, 1, 9, 10, 99, 100, 12345, 999999, 1000000} {
			want := fmt.Sprintf("frame %d t %d border %d", v, from.T, from.Ports.Border)
			checkLine(t, from, 1, want, func(m *impl.Machine) { m.Frames = v })
		}
		for v := range 640 {
			want := fmt.Sprintf("frame %d t %d border %d", from.Frames, v, from.Ports.Border)
			checkLine(t, from, 1, want, func(m *impl.Machine) { m.T = v })
		}
		for v := range 8 {
			want := fmt.Sprintf("frame %d t %d border %d", from.Frames, from.T, v)
			checkLine(t, from, 1, want, func(m *impl.Machine) { m.Ports.Border = v })
		}
	}
}

func TestPageLine(t *testing.T) {
	for page := range 4 {
		for _, screen := range []int{1, 3} {
			for locked, tail := range map[bool]string{false: "", true: " locked"} {
				for _, from := range []impl.Machine{newMachine(longText(64)), plainMachine()} {
					want := fmt.Sprint("page ", page, " screen ", screen) + tail
					checkLine(t, from, 2, want, func(m *impl.Machine) {
						m.Memory.Page, m.Memory.Screen, m.Memory.Locked = page, screen, locked
					})
				}
			}
		}
	}
}

func TestTapeLine(t *testing.T) {
	from := plainMachine()
	for _, n := range []int{0, 1, 2, 9, 10, 43, 999, impl.MaxList, mostPulses} {
		pulses := mixedPulses(n)
		with := func(index int, plays bool, want string) {
			left := 0
			if index < n {
				left = pulses[index]
			}
			for _, level := range []bool{false, true} {
				d := deckOf(pulses, index, left, level, plays)
				checkLine(t, from, 3, want, func(m *impl.Machine) { m.Deck = d })
			}
		}
		for _, index := range []int{0, 1, n / 2, n - 1} {
			if index >= 0 && index < n {
				with(index, false, fmt.Sprintf("tape %d of %d stopped", index, n))
				with(index, true, fmt.Sprintf("tape %d of %d plays", index, n))
			}
		}
		with(n, false, fmt.Sprintf("tape %d of %d stopped", n, n))
	}
}

// How much of a pulse is left is not told.
func TestTapeLineOfEachLeft(t *testing.T) {
	from := plainMachine()
	for left := 1; left <= 1000; left += 37 {
		checkLine(t, from, 3, "tape 1 of 3 plays", func(m *impl.Machine) { m.Deck = deckOf([]int{5, 1000, 5}, 1, left, false, true) })
	}
}

// The level that is told is the sound chip's, whatever the deck's is.
func TestLevelLine(t *testing.T) {
	from := plainMachine()
	for first := range 16 {
		for _, second := range []int{0, 1, 9, 14, 15} {
			for _, level := range []bool{false, true} {
				checkLine(t, from, 4, fmt.Sprintf("level %d events 5", first+second), func(m *impl.Machine) {
					m.Psg = impl.Psg{Regs: [8]int{3: 15, 4: first, 5: second}, Shift: 1}
					m.Deck.Level = level
				})
			}
		}
	}
	l := lot(1510)
	for range 500 {
		p := l.somePsg()
		want := fmt.Sprintf("level %d events 5", channelWritten(p, 0)+channelWritten(p, 1))
		checkLine(t, from, 4, want, func(m *impl.Machine) { m.Psg, m.Deck.Level = p, l.below(2) == 0 })
	}
}

func TestEventsLine(t *testing.T) {
	from := newMachine(longText(64))
	for _, n := range []int{0, 1, 2, 9, 10, 99, 100, 999, 1000} {
		checkLine(t, from, 4, fmt.Sprintf("level 0 events %d", n), func(m *impl.Machine) { m.Events = sameEvents(n, event(5, 1, 7)) })
	}
}

// What no line names is not told.
func TestWhatMachineLinesDoNotTell(t *testing.T) {
	for _, from := range []impl.Machine{newMachine(longText(64)), plainMachine()} {
		for name, change := range map[string]func(m *impl.Machine){
			"PsgT":   func(m *impl.Machine) { m.PsgT = 11 },
			"Saved":  func(m *impl.Machine) { m.Saved = longText(mostSaved) },
			"Joy":    func(m *impl.Machine) { m.Ports.Joy = 21 },
			"Keys":   func(m *impl.Machine) { m.Ports.Keys[3] = 7 },
			"Mic":    func(m *impl.Machine) { m.Ports.Mic = !m.Ports.Mic },
			"Beep":   func(m *impl.Machine) { m.Ports.Beep = !m.Ports.Beep },
			"Rom":    func(m *impl.Machine) { m.Memory.Rom[5]++ },
			"Ram":    func(m *impl.Machine) { m.Memory.Ram[1][5]++ },
			"Level":  func(m *impl.Machine) { m.Deck.Level = !m.Deck.Level },
			"Select": func(m *impl.Machine) { m.Psg.Select = 3 },
			"Ei":     func(m *impl.Machine) { m.Cpu.Ei = m.Cpu.Iff },
		} {
			m := copyMachine(from)
			change(&m)
			checkLines(t, name, m, linesWritten(from)...)
		}
	}
}

func TestLinesOfWrongMachines(t *testing.T) {
	for _, w := range wrongMachines() {
		if list, code := impl.MachineLines(w.m); len(list) != 0 || code != impl.ErrBad {
			t.Errorf("MachineLines of a wrong %s is %q %d", w.name, list, code)
		}
		if list, code := impl.ScreenLines(w.m); len(list) != 0 || code != impl.ErrBad {
			t.Errorf("ScreenLines of a wrong %s is %q %d", w.name, list, code)
		}
	}
}

// screenWritten goes by the document: of each of eight rows four cells, of each of them eight bits.
func screenWritten(m impl.Machine) []string {
	var list []string
	for row := range 8 {
		text := ""
		for column := range 4 {
			text += fmt.Sprintf("%08b", m.Memory.Ram[m.Memory.Screen][4*row+column])
		}
		list = append(list, strings.NewReplacer("0", ".", "1", "#").Replace(text))
	}
	return list
}

func checkScreen(t *testing.T, how string, m impl.Machine, want []string) {
	t.Helper()
	if list, code := impl.ScreenLines(m); !slices.Equal(list, want) || code != impl.OK {
		t.Fatalf("%s: ScreenLines is\n%s %d, not\n%s", how, strings.Join(list, "\n"), code, strings.Join(want, "\n"))
	}
}

func TestScreenLinesByHand(t *testing.T) {
	dark := strings.Repeat(".", 32)
	m := newMachine(longText(64))
	checkScreen(t, "a new one", m, slices.Repeat([]string{dark}, 8))
	m.Memory.Ram[1] = cellsOf("\x80\x01\xaa\x0f" + times(12, "\x00") + "\xff\x00\xff\x00" + times(11, "\x00") + "\x03" + times(32, "\xff"))
	m.Memory.Ram[3] = cellsOf(times(64, "\xff"))
	checkScreen(t, "some cells", m, []string{"#..............##.#.#.#.....####", dark, dark, dark, "########........########........", dark, dark, "..............................##"})
}

// In banks of one bit each, all else is dark: each bit of each cell has a place of its own, and what stands behind the cells has none.
func TestScreenLinesOfOneBit(t *testing.T) {
	for _, screen := range []int{1, 3} {
		for bank := range 4 {
			for place := range 64 {
				for bit := range 8 {
					m := newMachine(longText(64))
					m.Memory.Screen = screen
					m.Memory.Ram[bank][place] = 1 << bit
					want := slices.Repeat([]string{times(32, ".")}, 8)
					if bank == screen && place < 32 {
						across := 8*(place%4) + 7 - bit
						want[place/4] = times(across, ".") + "#" + times(31-across, ".")
					}
					checkScreen(t, fmt.Sprint("bit ", bit, " of ", place), m, want)
				}
			}
		}
	}
}

func TestScreenLinesWithoutOneBit(t *testing.T) {
	for place := range 64 {
		for bit := range 8 {
			m := newMachine(longText(64))
			m.Memory.Ram[1] = cellsOf(times(64, "\xff"))
			m.Memory.Ram[1][place] -= 1 << bit
			checkScreen(t, fmt.Sprint("bit ", bit, " of ", place), m, screenWritten(m))
		}
	}
}

func TestScreenLinesOfRightMachines(t *testing.T) {
	for _, m := range rightMachines() {
		checkScreen(t, "a right one", m, screenWritten(m))
	}
	l := lot(1511)
	for range 300 {
		m := plainMachine()
		m.Memory = l.someMemory()
		checkScreen(t, "a mixed one", m, screenWritten(m))
	}
}

// The Page is not the screen: only Screen tells which bank is shown.
func TestScreenLinesOfEachPage(t *testing.T) {
	for page := range 4 {
		for _, screen := range []int{1, 3} {
			for _, locked := range []bool{false, true} {
				m := plainMachine()
				m.Memory = paged(mixedMemory(), page, screen, locked)
				checkScreen(t, fmt.Sprint("Page ", page, " Screen ", screen), m, screenWritten(m))
			}
		}
	}
}

func TestScreenLinesOfOnesThatHaveRun(t *testing.T) {
	eachStart(func(name string, m impl.Machine) {
		for range 6 {
			m, _ = impl.RunFrame(m)
			checkScreen(t, name, m, screenWritten(m))
		}
	})
}

// What is fetched for the screen in a frame is what its lines tell, cell by cell.
func TestScreenLinesAreWhatIsFetched(t *testing.T) {
	m := plainMachine()
	list, _ := impl.ScreenLines(m)
	text := strings.Join(list, "")
	next := 0
	for at := range 640 {
		place, _ := impl.FetchAt(at)
		if place < 0 || place >= 32 {
			continue
		}
		cells := fmt.Sprintf("%08b", m.Memory.Ram[m.Memory.Screen][place])
		if got := text[8*next : 8*next+8]; strings.NewReplacer(".", "0", "#", "1").Replace(got) != cells {
			t.Error("cell", place, "is", got, "not", cells)
		}
		next++
	}
	if next != 32 {
		t.Error("fetched are", next, "cells")
	}
}
