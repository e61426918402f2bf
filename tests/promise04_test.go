package tests

import (
	"testing"

	"loop.example/g00644/impl"
)

// Who waits goes on at the first T at which nobody waits: no sooner, no later.
func TestPromise4Contention(t *testing.T) {
	table := impl.WaitTable()
	for at := range impl.FrameT {
		w, code := impl.WaitsAt(at)
		if w < 0 || w > 6 || code != impl.OK || w != table[at] {
			t.Fatal("WaitsAt", at, "is", w, code, "and in the table", table[at])
		}
		if then, code := impl.WaitsAt(at + w); then != 0 || code != impl.OK {
			t.Error("from", at, "one goes on at", at+w, "where one waits", then, code)
		}
		for sooner := at; sooner < at+w; sooner++ {
			if free, _ := impl.WaitsAt(sooner); free == 0 {
				t.Error("from", at, "one waits until", at+w, "but may go on at", sooner)
			}
		}
	}
}

// Nobody waits but for the screen, and goes on within it.
func TestPromise4WaitsAreOfTheScreen(t *testing.T) {
	for at := range impl.FrameT {
		w, _ := impl.WaitsAt(at)
		if w == 0 {
			continue
		}
		for _, moment := range []int{at, at + w} {
			if yes, code := impl.IsScreen(moment); !yes || code != impl.OK {
				t.Error("from", at, "to", at+w, "one waits outside the screen", code)
			}
		}
	}
}

func TestPromise4Screen(t *testing.T) {
	var often [2 * 32]int
	for at := range impl.FrameT {
		k, code := impl.FetchAt(at)
		if k == -1 && code == impl.OK {
			continue
		}
		if k < 0 || k >= len(often) || code != impl.OK {
			t.Fatal("FetchAt", at, "is", k, code)
		}
		often[k]++
		if yes, _ := impl.IsScreen(at); !yes {
			t.Error("outside the screen, at", at, "byte", k, "is fetched")
		}
	}
	for k, n := range often {
		if n != 1 {
			t.Error("byte", k, "is fetched so often:", n)
		}
	}
}
