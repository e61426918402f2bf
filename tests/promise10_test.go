package tests

import (
	"slices"
	"testing"

	"loop.example/g00644/impl"
)

// readBack writes a block and takes it again, at the beginning of its text and among others.
func readBack(t *testing.T, b impl.Block) {
	t.Helper()
	s, code := impl.BlockText(b)
	if code != impl.OK {
		t.Fatal("BlockText of", short(b), "is", code)
	}
	x, got, code := impl.TakeBlock(impl.Cursor{Data: s})
	if got != b || code != impl.OK || x != (impl.Cursor{Data: s, At: len(s)}) {
		t.Error("of", short(b), "its text gives", short(got), code, "up to", x.At)
	}
	all := s + s + s
	x, got, code = impl.TakeBlock(impl.Cursor{Data: all, At: len(s)})
	if got != b || code != impl.OK || x != (impl.Cursor{Data: all, At: 2 * len(s)}) {
		t.Error("of", short(b), "among others its text gives", short(got), code, "up to", x.At)
	}
}

func TestPromise10BlocksAreReadBack(t *testing.T) {
	for flag := range 256 {
		for n := range impl.MaxBlock + 1 {
			readBack(t, blockOf(flag, n))
		}
		for v := range 256 {
			readBack(t, impl.Block{Flag: flag, Data: string([]byte{byte(v)})})
		}
	}
	l := lot(1000)
	for range 5000 {
		readBack(t, l.someBlock())
	}
}

func TestPromise10TapesAreReadBack(t *testing.T) {
	l := lot(1001)
	for range 3000 {
		list := l.someTape(l.below(impl.MaxBlocks + 1))
		s, code := impl.TapText(list)
		if code != impl.OK {
			t.Fatal("TapText of", short(list), "is", code)
		}
		if got, code := impl.ReadTap(s); code != impl.OK || !slices.Equal(got, list) {
			t.Error("of", short(list), "its text gives", short(got), code)
		}
	}
}

// What is read is written as it was: no two texts give one tape.
func TestPromise10TextsAreWrittenBack(t *testing.T) {
	smallTexts(func(s string) {
		list, code := impl.ReadTap(s)
		if code != impl.OK {
			return
		}
		if again, code := impl.TapText(list); again != s || code != impl.OK {
			t.Error("of", short(s), "the blocks are", short(list), "and their text", short(again), code)
		}
	})
}

// Each byte of flag, data and sum is made each other byte.
func TestPromise10AnotherByteOfABlockIsTold(t *testing.T) {
	for _, b := range []impl.Block{{}, {Flag: 255}, blockOf(0, 1), blockOf(128, 2), blockOf(77, 19), blockOf(255, impl.MaxBlock)} {
		s, _ := impl.BlockText(b)
		for i := 2; i < len(s); i++ {
			for v := range 256 {
				c := impl.Cursor{Data: s[:i] + string([]byte{byte(v)}) + s[i+1:]}
				if c.Data == s {
					continue
				}
				if x, got, code := impl.TakeBlock(c); x != c || got != (impl.Block{}) || code != impl.ErrSum {
					t.Error("with", v, "at", i, "of", short(b), "TakeBlock is", short(x), short(got), code)
				}
			}
		}
	}
}

func TestPromise10AnotherByteOfATapeIsTold(t *testing.T) {
	l := lot(1002)
	for n := 1; n <= impl.MaxBlocks; n++ {
		list := l.someTape(n)
		s, _ := impl.TapText(list)
		begin := 0
		for _, b := range list {
			end := begin + len(b.Data) + 4
			for i := begin + 2; i < end; i++ {
				for by := 1; by < 256; by++ {
					other := []byte(s)
					other[i] ^= byte(by)
					if got, code := impl.ReadTap(string(other)); len(got) != 0 || code != impl.ErrSum {
						t.Error("with another byte at", i, "of", n, "blocks ReadTap is", short(got), code)
					}
				}
			}
			begin = end
		}
	}
}
