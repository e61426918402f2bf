package tests

import (
	"slices"
	"testing"

	"loop.example/g00644/impl"
)

func TestSnapsThatAreHandedInStay(t *testing.T) {
	snaps := []impl.Snap{newSnap(), plainSnap()}
	for _, w := range wrongSnaps() {
		snaps = append(snaps, w.s)
	}
	for _, s := range snaps {
		m, rooms := roomy(s.Memory)
		s.Memory = m
		want := copySnap(s)
		impl.SnapOK(s)
		impl.SnapText(s)
		impl.SameSnap(s, s)
		impl.SameSnap(s, plainSnap())
		impl.SameSnap(plainSnap(), s)
		if !sameParts(s, want) {
			t.Fatal("a snapshot that was handed in is changed:", short(want))
		}
		for _, room := range rooms {
			if tail := room[len(room)-3:]; !slices.Equal(tail, []int{behindEnd, behindEnd, behindEnd}) {
				t.Fatal("behind the end stands", tail)
			}
		}
	}
}

// snapTexts are right ones, and ones of each fault.
func snapTexts() []string {
	list := []string{snapWritten(newSnap()), snapWritten(plainSnap())}
	for _, row := range snapFaults() {
		for _, fault := range row {
			p := rightPieces()
			fault.make(&p)
			list = append(list, p.text())
		}
	}
	for _, b := range bankKinds() {
		list = append(list, bankText(2, sized(b)), bankText(3, sized(compressWritten(b))))
	}
	return list
}

func TestTextsOfSnapsStay(t *testing.T) {
	for _, s := range snapTexts() {
		for _, rom := range []string{longText(63), longText(64), longText(65)} {
			text, bytes := unsafeText(s)
			given, romBytes := unsafeText(rom)
			impl.ReadSnap(text, given)
			if string(bytes) != s+"behind" || string(romBytes) != rom+"behind" {
				t.Fatalf("a text that was handed in is changed: %.60x", s)
			}
		}
	}
}

// What was handed in is written to afterwards, and the answers stay.
func TestAnswersOfSnapsOwnTheirMemory(t *testing.T) {
	for _, s := range rightSnaps() {
		text, bytes := unsafeText(snapWritten(s))
		rom, romBytes := unsafeText(romOf(s))
		x, code := impl.ReadSnap(text, rom)
		own := copySnap(s)
		out, _ := impl.SnapText(own)
		want := snapWritten(s)
		clear(bytes)
		clear(romBytes)
		scribble(own.Memory)
		if code != impl.OK || !sameParts(x, asRead(s)) {
			t.Fatal("what ReadSnap answers shares memory with its arguments")
		}
		if out != want {
			t.Fatal("what SnapText answers shares memory with its argument")
		}
	}
}

func TestSnapsThatWereReadShareNothingWithEachOther(t *testing.T) {
	for _, s := range rightSnaps() {
		text, rom := snapWritten(s), romOf(s)
		first, _ := impl.ReadSnap(text, rom)
		second, _ := impl.ReadSnap(text, rom)
		scribble(first.Memory)
		later, _ := impl.ReadSnap(text, rom)
		if !sameParts(second, asRead(s)) || !sameParts(later, asRead(s)) {
			t.Fatal("two answers of ReadSnap share memory")
		}
	}
}

// The banks may be alike, and so may the ROM: each is a list of its own.
func TestListsOfASnapShareNothing(t *testing.T) {
	for _, s := range []impl.Snap{newSnap(), plainSnap(), withBanks(newSnap(), bankKinds()[:4]...)} {
		x, _ := impl.ReadSnap(snapWritten(s), romOf(s))
		lists := append([][]int{x.Memory.Rom}, x.Memory.Ram...)
		for i, cells := range lists {
			wide := cells[:cap(cells)]
			for k := range wide {
				wide[k] = 1000 + i
			}
			for j, others := range lists {
				if j != i && slices.Contains(others, 1000+i) {
					t.Fatal("lists of a snapshot share memory:", i, j)
				}
			}
		}
	}
}
