package tests

import (
	"testing"

	"loop.example/g00644/impl"
)

// checkSnapBack writes s and reads it back, but for its keys and its Joy.
func checkSnapBack(t *testing.T, s impl.Snap) string {
	t.Helper()
	text, code := impl.SnapText(s)
	if code != impl.OK {
		t.Fatal("SnapText of", short(s), "is", code)
	}
	x, code := impl.ReadSnap(text, romOf(s))
	if code != impl.OK || !sameParts(x, asRead(s)) || !impl.SameSnap(x, s) || !impl.SameSnap(s, x) {
		t.Fatalf("%s is read back of %.60x as %d %s", short(s), text, code, short(x))
	}
	if again, code := impl.SnapText(x); again != text || code != impl.OK {
		t.Fatalf("what was read back of %.60x is written as %.60x %d", text, again, code)
	}
	return text
}

// checkSnapIsNone wants a code and nothing else.
func checkSnapIsNone(t *testing.T, how, text, rom string) {
	t.Helper()
	if x, code := impl.ReadSnap(text, rom); code == impl.OK || !isZeroSnap(x) {
		t.Fatalf("%s, %d bytes %.60x are a snapshot: %d %s", how, len(text), text, code, short(x))
	}
}

func checkPromise14(t *testing.T, s impl.Snap) {
	t.Helper()
	text, rom := checkSnapBack(t, s), romOf(s)
	for n := range len(text) {
		checkSnapIsNone(t, "cut off", text[:n], rom)
	}
	for _, behind := range []string{"\x00", "\x03", "\xff", mark, "\x00\x00", mark + mark, noughts, text[:15], text, times(4096, "\x00")} {
		checkSnapIsNone(t, "with more behind it", text+behind, rom)
	}
}

func TestPromise14OfEachKind(t *testing.T) {
	for _, s := range rightSnaps() {
		checkPromise14(t, s)
	}
}

func TestPromise14OfEachByteOfBanks(t *testing.T) {
	for v := range 256 {
		b := string([]byte{byte(v)})
		s := withBanks(plainSnap(), times(64, b), longText(63)+b, mark+times(62, b)+mark, times(31, "x")+b+times(32, b+mark)[:32])
		checkPromise14(t, s)
	}
}

func TestPromise14OfRunsInBanks(t *testing.T) {
	for n := range 65 {
		for _, b := range []string{"a", mark, "\x00"} {
			s := withBanks(newSnap(), times(n, b)+longText(64)[n:], longText(64)[n:]+times(n, b), times(n, b)+times(64-n, "b"), times(n, b)+times(64-n, mark))
			checkPromise14(t, s)
		}
	}
}

func TestPromise14OfMixedSnaps(t *testing.T) {
	l := lot(1400)
	for range 400 {
		checkPromise14(t, l.someSnap())
	}
}

// What a memory went through, its pages and its lock, is in its snapshot.
func TestPromise14OfSnapsOnTheWay(t *testing.T) {
	l := lot(1401)
	for range 20 {
		s := newSnap()
		s.Memory.Rom = l.someMemory().Rom
		for range 40 {
			m, _ := impl.PokeAt(s.Memory, l.someByte(), l.someByte())
			if l.below(5) == 0 {
				m, _ = impl.PageTo(m, l.below(64))
			}
			c, m, _, code := impl.StepCpu(s.Cpu, m, l.someByte())
			if code != impl.OK {
				t.Fatal("StepCpu is", code)
			}
			p, _ := impl.WriteUla(s.Ports, l.someByte())
			p, _ = impl.PressKey(p, l.below(8), l.below(5), l.below(2) == 0)
			s = impl.Snap{Cpu: c, Memory: m, Ports: p}
			checkSnapBack(t, s)
		}
		checkPromise14(t, s)
	}
}
