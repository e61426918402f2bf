package tests

import (
	"reflect"
	"testing"

	"loop.example/g00644/impl"
)

// What is written is read by each address that shows the same cell, and no other address shows it.
func TestPromise5Written(t *testing.T) {
	for page := range 4 {
		m := paged(mixedMemory(), page, 1, false)
		for address := 64; address < 256; address++ {
			v := 255 - m.Ram[0][address%64]
			x, code := impl.PokeAt(m, address, v)
			if code != impl.OK {
				t.Fatal("PokeAt", address, v, "is", code)
			}
			bank, place, _ := impl.WhereIs(m, address)
			for other := range 256 {
				want, _ := impl.PeekAt(m, other)
				if b, p, _ := impl.WhereIs(m, other); b == bank && p == place {
					want = v
				}
				if got, code := impl.PeekAt(x, other); got != want || code != impl.OK {
					t.Error("with Page", page, v, "is written to", address, "and at", other, "is read", got, code)
				}
			}
		}
	}
}

// What is written to a bank is there whichever Page was shown in between.
func TestPromise5WrittenAndPaged(t *testing.T) {
	m, code := impl.NewMemory(longText(64))
	for page := range 4 {
		for place := range 64 {
			m, _ = impl.PageTo(m, page)
			m, code = impl.PokeAt(m, 192+place, (64*page+place)%256)
			if code != impl.OK {
				t.Fatal("PokeAt", 192+place, "is", code)
			}
		}
	}
	for page := range 4 {
		m, _ = impl.PageTo(m, page+8)
		for place := range 64 {
			if v, code := impl.PeekAt(m, 192+place); v != (64*page+place)%256 || code != impl.OK {
				t.Error("of Page", page, "at place", place, "is read", v, code)
			}
		}
	}
	for address := 64; address < 192; address++ {
		if v, code := impl.PeekAt(m, address); v != address || code != impl.OK {
			t.Error("at", address, "is read", v, code)
		}
	}
}

// TestPromise5LongRuns goes by a plain model of five rows of bytes, through writings and pagings in a mixed order.
func TestPromise5LongRuns(t *testing.T) {
	for seed := range 8 {
		m, _ := impl.NewMemory(longText(64))
		var rows [5][64]int // the ROM is the last one
		for i := range 64 {
			rows[4][i] = m.Rom[i]
		}
		page, screen, locked := 0, 1, false
		n := uint32(seed)
		for range 600 {
			n = n*1664525 + 1013904223
			address, v := int(n>>24), int(n>>16&255)
			if n>>12&3 != 0 {
				m, _ = impl.PokeAt(m, address, v)
				if address >= 64 {
					rows[[4]int{4, 1, 2, page}[address/64]][address%64] = v
				}
			} else {
				if n>>8&15 != 0 {
					v &= 223
				}
				m, _ = impl.PageTo(m, v)
				if !locked {
					page, screen, locked = v&3, 1+v&8/4, v&32 > 0
				}
			}
			for i, row := range rows {
				if got := append(append([][]int{}, m.Ram...), m.Rom)[i]; !reflect.DeepEqual(got, row[:]) {
					t.Fatal("row", i, "is", got, "not", row)
				}
			}
			if m.Page != page || m.Screen != screen || m.Locked != locked {
				t.Fatal("Page, Screen, Locked are", m.Page, m.Screen, m.Locked, "not", page, screen, locked)
			}
		}
	}
}

func TestPromise5Lock(t *testing.T) {
	for v := range 256 {
		if v/32%2 == 0 {
			continue
		}
		m, code := impl.PageTo(mixedMemory(), v)
		if code != impl.OK || !m.Locked {
			t.Fatal("PageTo", v, "does not lock", code)
		}
		for w := range 256 {
			x, code := impl.PageTo(m, w)
			if code != impl.ErrLocked || !impl.SameMemory(x, m) {
				t.Error("locked by", v, "PageTo", w, "is Page", x.Page, "Screen", x.Screen, "Locked", x.Locked, code)
			}
		}
	}
}

// A lock holds paging alone: it is written and read as ever, and stays locked.
func TestPromise5LockedIsWritten(t *testing.T) {
	m, _ := impl.PageTo(mixedMemory(), 32+2)
	for address := 64; address < 256; address++ {
		x, code := impl.PokeAt(m, address, 9)
		if code != impl.OK || !x.Locked || x.Page != 2 {
			t.Fatal("locked, PokeAt", address, "is Locked", x.Locked, "Page", x.Page, code)
		}
		if v, code := impl.PeekAt(x, address); v != 9 || code != impl.OK {
			t.Error("locked, PeekAt", address, "is", v, code)
		}
		if y, code := impl.PageTo(x, 1); code != impl.ErrLocked || !impl.SameMemory(y, x) {
			t.Error("locked and written, it is paged", code)
		}
	}
}
