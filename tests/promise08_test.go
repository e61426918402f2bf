package tests

import (
	"testing"

	"loop.example/g00644/impl"
)

// A key that is down is seen, as a 0, by each choice that has its row, and by no choice of others.
func TestPromise8SeenByItsRow(t *testing.T) {
	for row := range 8 {
		for key := range 5 {
			p, code := impl.PressKey(impl.NewPorts(), row, key, true)
			if code != impl.OK {
				t.Fatal("PressKey", row, key, "is", code)
			}
			for rows := range 256 {
				none, _ := impl.ReadKeys(impl.NewPorts(), rows, false)
				want := none
				if rows>>row&1 == 0 {
					want -= 1 << key
				}
				if v, code := impl.ReadKeys(p, rows, false); v != want || code != impl.OK {
					t.Error("with key", key, "of row", row, "down ReadKeys", rows, "is", v, code)
				}
			}
		}
	}
}

// Through many keys that go down and up, with writings in between, each row alone tells just its keys that are down.
func TestPromise8LongRuns(t *testing.T) {
	for seed := range 8 {
		l := lot(80 + seed)
		var keys pressed
		p, code := impl.NewPorts(), impl.OK
		for range 400 {
			row, key, down := l.below(8), l.below(5), l.below(2) == 0
			p, code = impl.PressKey(p, row, key, down)
			keys[row][key] = down
			if code != impl.OK || !impl.PortsOK(p) {
				t.Fatal("PressKey", row, key, down, "is", p, code)
			}
			p, code = impl.WriteUla(p, l.below(256))
			if code != impl.OK || !impl.PortsOK(p) {
				t.Fatal("WriteUla is", p, code)
			}
			for row := range 8 {
				v, code := impl.ReadKeys(p, 255-1<<row, l.below(2) == 0)
				for key := range 5 {
					if seen := v>>key&1 == 0; seen != keys[row][key] || code != impl.OK {
						t.Fatal("key", key, "of row", row, "is down:", keys[row][key], "and seen:", seen, code)
					}
				}
			}
		}
	}
}

// Whichever other keys are down, one that goes down is seen by its row, and up again it is not.
func TestPromise8AmongOthers(t *testing.T) {
	l := lot(88)
	for range 300 {
		p := l.somePorts()
		for row := range 8 {
			for key := range 5 {
				for _, down := range []bool{true, false} {
					x, _ := impl.PressKey(p, row, key, down)
					v, code := impl.ReadKeys(x, 255-1<<row, false)
					if seen := v>>key&1 == 0; seen != down || code != impl.OK {
						t.Error("of", p, "key", key, "of row", row, "is down:", down, "and seen:", seen, code)
					}
				}
			}
		}
	}
}

func TestPromise8EvenPorts(t *testing.T) {
	for n := range 256 {
		kind, code := impl.PortKind(n)
		if isUla := kind == impl.PoUla; isUla != (n%2 == 0) || code != impl.OK {
			t.Error("port", n, "is of kind", kind, code)
		}
	}
}
