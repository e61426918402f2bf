package tests

import (
	"math"
	"slices"
	"strings"
	"testing"

	"loop.example/g00644/impl"
)

type blockAnswer struct {
	c    impl.Cursor
	b    impl.Block
	code int
}

// blockWritten is the chapter's sentence told once more, on what is left of the text: ErrBad; ErrEnd, ErrSize and ErrSum with the cursor as it was.
func blockWritten(c impl.Cursor) blockAnswer {
	if len(c.Data) > 65536 || c.At < 0 || c.At > len(c.Data) {
		return blockAnswer{code: impl.ErrBad}
	}
	left := []byte(c.Data)[c.At:]
	if len(left) == 0 || len(left) == 1 {
		return blockAnswer{c: c, code: impl.ErrEnd}
	}
	n := int(left[1])<<8 | int(left[0])
	left = left[2:]
	switch {
	case len(left) < n:
		return blockAnswer{c: c, code: impl.ErrEnd}
	case n == 0 || n == 1 || n-2 > 40:
		return blockAnswer{c: c, code: impl.ErrSize}
	}
	b := impl.Block{Flag: int(left[0]), Data: string(left[1 : n-1])}
	if sumWritten(b.Flag, b.Data) != int(left[n-1]) {
		return blockAnswer{c: c, code: impl.ErrSum}
	}
	return blockAnswer{c: impl.Cursor{Data: c.Data, At: c.At + 2 + n}, b: b}
}

func checkTake(t *testing.T, c impl.Cursor, want blockAnswer) {
	t.Helper()
	x, b, code := impl.TakeBlock(c)
	if got := (blockAnswer{x, b, code}); got != want {
		t.Errorf("of %d bytes at %d TakeBlock is %s, not %s", len(c.Data), c.At, short(got), short(want))
	}
	if want != blockWritten(c) {
		t.Error("of", short(c), "the chapter asks for", short(blockWritten(c)))
	}
}

func checkNoBlock(t *testing.T, c impl.Cursor, code int) {
	t.Helper()
	if code == impl.ErrBad {
		checkTake(t, c, blockAnswer{code: code})
		return
	}
	checkTake(t, c, blockAnswer{c: c, code: code})
}

func at(s string, i int) impl.Cursor { return impl.Cursor{Data: s, At: i} }

func TestTakeBlockWhereverItStands(t *testing.T) {
	for flag := 0; flag < 256; flag += 17 {
		for n := range impl.MaxBlock + 1 {
			b := blockOf(flag, n)
			s := textWritten(b)
			other := textWritten(blockOf(77, 5))
			for _, ahead := range []string{"", "x", "\x02\x00", other, other + other} {
				for _, behind := range []string{"", "\x00", "y", other} {
					all := ahead + s + behind
					checkTake(t, at(all, len(ahead)), blockAnswer{c: at(all, len(ahead)+len(s)), b: b})
				}
			}
		}
	}
}

func TestTakeBlockOneAfterTheOther(t *testing.T) {
	l := lot(104)
	for range 300 {
		list := l.someTape(1 + l.below(9))
		c := at(textWritten(list...), 0)
		for _, b := range list {
			next := at(c.Data, c.At+4+len(b.Data))
			checkTake(t, c, blockAnswer{c: next, b: b})
			c = next
		}
		checkNoBlock(t, c, impl.ErrEnd)
	}
}

func TestTakeBlockAtTheEndOfALongText(t *testing.T) {
	for _, n := range []int{0, 1, impl.MaxBlock} {
		b := blockOf(130, n)
		s := textWritten(b)
		all := longText(impl.MaxText-len(s)) + s
		checkTake(t, at(all, impl.MaxText-len(s)), blockAnswer{c: at(all, impl.MaxText), b: b})
		checkNoBlock(t, at(all, impl.MaxText), impl.ErrEnd)
		checkNoBlock(t, at(all, impl.MaxText-1), impl.ErrEnd)
		checkNoBlock(t, at("x"+all, impl.MaxText+1-len(s)), impl.ErrBad)
	}
}

// A wrong cursor is ErrBad whatever stands there, and the only code of which the cursor is not as it was.
func TestTakeBlockOfWrongCursors(t *testing.T) {
	s := textWritten(blockOf(5, 3))
	for _, data := range []string{"", "\x00", s, s[:4], "\x00\x00", "\x02\x00\x07\x06"} {
		for _, i := range []int{math.MinInt, -65536, -256, -2, -1, len(data) + 1, len(data) + 2, impl.MaxText + 1, math.MaxInt - 1, math.MaxInt} {
			checkNoBlock(t, at(data, i), impl.ErrBad)
		}
	}
	for _, rest := range []string{"", "\x02", s, "\x00\x00", "\x02\x00\x07\x06"} {
		long := rest + strings.Repeat("\x00", impl.MaxText+1-len(rest))
		for _, i := range []int{-1, 0, 1, impl.MaxText, impl.MaxText + 1, impl.MaxText + 2} {
			checkNoBlock(t, at(long, i), impl.ErrBad)
		}
	}
}

// Cut off anywhere, a block is at its end.
func TestTakeBlockCutOff(t *testing.T) {
	for n := range impl.MaxBlock + 1 {
		s := textWritten(blockOf(3*n, n))
		for cut := range len(s) {
			checkNoBlock(t, at(s[:cut], 0), impl.ErrEnd)
			checkNoBlock(t, at("\x02\x00\x01\x01"+s[:cut], 4), impl.ErrEnd)
		}
	}
}

// ofLength is a word that tells of n bytes, and as many bytes, their sum right, but for some at the end.
func ofLength(n, lacking int) string {
	return string([]byte{byte(n % 256), byte(n / 256)}) + strings.Repeat("\x00", n-lacking)
}

func TestTakeBlockBySize(t *testing.T) {
	for n := range 600 {
		for _, behind := range []string{"", "\x00", "\x05", longText(50)} {
			s := ofLength(n, 0) + behind
			if n >= 2 && n <= 42 {
				checkTake(t, at(s, 0), blockAnswer{c: at(s, n+2), b: impl.Block{Data: s[3 : n+1]}})
			} else {
				checkNoBlock(t, at(s, 0), impl.ErrSize)
			}
		}
	}
	for _, n := range []int{255, 256, 258, 298, 512, 514, 4096, 65280, 65282, 65533, 65534} {
		checkNoBlock(t, at(ofLength(n, 0), 0), impl.ErrSize)
	}
}

func TestTakeBlockSizesWrittenOut(t *testing.T) {
	zeros := strings.Repeat("\x00", 43)
	for _, c := range []struct {
		name, s string
		code    int
	}{
		{"no byte", "\x00\x00", impl.ErrSize},
		{"no byte, and more behind it", "\x00\x00\x00\x00", impl.ErrSize},
		{"one byte", "\x01\x00\x00", impl.ErrSize},
		{"one byte, and more behind it", "\x01\x00\x07\x07", impl.ErrSize},
		{"two bytes", "\x02\x00\x00\x00", impl.OK},
		{"MaxBlock and two bytes", "\x2a\x00" + zeros[:42], impl.OK},
		{"MaxBlock and three bytes", "\x2b\x00" + zeros, impl.ErrSize},
		{"two bytes, the word the other way about", "\x00\x02\x00\x00", impl.ErrEnd},
		{"the high byte counts", "\x02\x01\x00\x00", impl.ErrEnd},
	} {
		x, b, code := impl.TakeBlock(at(c.s, 0))
		want := impl.Cursor{Data: c.s}
		if c.code == impl.OK {
			want.At = len(c.s)
		}
		if code != c.code || x != want || code != impl.OK && b != (impl.Block{}) {
			t.Error(c.name, "but TakeBlock is", short(x), short(b), code)
		}
	}
}

func TestTakeBlockWithAnotherSum(t *testing.T) {
	for _, n := range []int{0, 1, 2, 17, impl.MaxBlock} {
		s := []byte(textWritten(blockOf(90, n)))
		for i := 2; i < len(s); i++ {
			for bit := range 8 {
				s[i] ^= 1 << bit
				checkNoBlock(t, at(string(s), 0), impl.ErrSum)
				checkNoBlock(t, at("ab"+string(s)+"c", 2), impl.ErrSum)
				s[i] ^= 1 << bit
			}
		}
	}
}

// Of two faults the one that the chapter names first is told.
func TestTakeBlockFaultsInTheirOrder(t *testing.T) {
	for _, n := range []int{1, 43, 44, 256, 300, 65534, 65535} {
		for _, lacking := range []int{1, 2, 40, n} {
			if lacking <= n {
				checkNoBlock(t, at(ofLength(n, lacking), 0), impl.ErrEnd)
			}
		}
	}
	checkNoBlock(t, at("\x01\x00", 0), impl.ErrEnd)
	checkNoBlock(t, at("\x02\x00\x07", 0), impl.ErrEnd)
	checkNoBlock(t, at("\x03\x00\x07\x06", 0), impl.ErrEnd)
	checkNoBlock(t, at("\x01\x00\x07", 0), impl.ErrSize)
	checkNoBlock(t, at("\x2b\x00\x01"+strings.Repeat("\x00", 42), 0), impl.ErrSize)
	checkNoBlock(t, at("\x00\x00", 3), impl.ErrBad)
	checkNoBlock(t, at("\x02\x00\x07\x06", -1), impl.ErrBad)
	checkNoBlock(t, at("\x02\x00\x07\x06", 5), impl.ErrBad)
}

// smallTexts are all texts of few small bytes, in which all the faults come.
func smallTexts(with func(s string)) {
	const letters = "\x00\x01\x02\x03"
	level := []string{""}
	for range 8 {
		var longer []string
		for _, s := range level {
			with(s)
			for i := range len(letters) {
				longer = append(longer, s+letters[i:i+1])
			}
		}
		level = longer
	}
}

func TestTakeBlockOfAllSmallTexts(t *testing.T) {
	smallTexts(func(s string) {
		for i := -1; i <= len(s)+1; i++ {
			checkTake(t, at(s, i), blockWritten(at(s, i)))
		}
	})
	for _, c := range anyCursors() {
		checkTake(t, c, blockWritten(c))
	}
}

// tapeWritten goes block by block: TakeBlock's codes of each, then whether it is one too many.
func tapeWritten(s string) ([]impl.Block, int) {
	if len(s) > 65536 {
		return nil, impl.ErrLong
	}
	var list []impl.Block
	for c := at(s, 0); c.At != len(s); {
		answer := blockWritten(c)
		if answer.code != impl.OK {
			return nil, answer.code
		}
		list = append(list, answer.b)
		if len(list) == 7 {
			return nil, impl.ErrMany
		}
		c = answer.c
	}
	return list, impl.OK
}

func checkTape(t *testing.T, s string, want []impl.Block, wantCode int) {
	t.Helper()
	if list, code := impl.ReadTap(s); code != wantCode || !slices.Equal(list, want) {
		t.Errorf("of %s ReadTap is %s %d, not %s %d", short(s), short(list), code, short(want), wantCode)
	}
	if list, code := tapeWritten(s); code != wantCode || !slices.Equal(list, want) {
		t.Error("of", short(s), "the chapter asks for", short(list), code)
	}
}

func TestReadTapOfWhatTapTextWrote(t *testing.T) {
	checkTape(t, "", nil, impl.OK)
	l := lot(105)
	for n := range impl.MaxBlocks + 1 {
		lists := [][]impl.Block{tapeOf(n), make([]impl.Block, n)}
		for range 300 {
			lists = append(lists, l.someTape(n))
		}
		for _, list := range lists {
			s, code := impl.TapText(list)
			if code != impl.OK {
				t.Fatal("TapText of", n, "blocks is", code)
			}
			checkTape(t, s, list, impl.OK)
		}
	}
}

func TestReadTapWithAByteMoreOrFewer(t *testing.T) {
	for n := range impl.MaxBlocks + 1 {
		list := tapeOf(n)
		s := textWritten(list...)
		for v := range 256 {
			checkTape(t, s+string([]byte{byte(v)}), nil, impl.ErrEnd)
		}
		if n > 0 {
			checkTape(t, s[:len(s)-1], nil, impl.ErrEnd)
		}
		// A tape that is cut off between two blocks is a tape.
		end := 0
		for i, b := range list {
			checkTape(t, s[:end], list[:i], impl.OK)
			for cut := end + 1; cut < end+4+len(b.Data); cut++ {
				checkTape(t, s[:cut], nil, impl.ErrEnd)
			}
			end += 4 + len(b.Data)
		}
	}
}

// faultyBlocks are texts of what is no block, by code; more may stand behind each of them but the first two.
func faultyBlocks() []struct {
	s    string
	code int
} {
	return []struct {
		s    string
		code int
	}{
		{"\x02", impl.ErrEnd},
		{"\x05\x00\x07\x07", impl.ErrEnd},
		{"\x00\x00", impl.ErrSize},
		{"\x01\x00\x00", impl.ErrSize},
		{ofLength(43, 0), impl.ErrSize},
		{ofLength(300, 0), impl.ErrSize},
		{"\x02\x00\x07\x06", impl.ErrSum},
		{"\x03\x00\x07\x01\x07", impl.ErrSum},
		{"\x2a\x00" + strings.Repeat("\x00", 41) + "\x01", impl.ErrSum},
	}
}

func TestReadTapWithAFaultyBlock(t *testing.T) {
	for i, faulty := range faultyBlocks() {
		for ahead := range impl.MaxBlocks {
			s := textWritten(tapeOf(ahead)...) + faulty.s
			checkTape(t, s, nil, faulty.code)
			for behind := 1; i >= 2 && behind < 4; behind++ {
				checkTape(t, s+textWritten(tapeOf(behind)...), nil, faulty.code)
			}
		}
	}
}

// Of two faulty blocks the first one is told, whatever the codes are.
func TestReadTapWithTwoFaultyBlocks(t *testing.T) {
	for i, first := range faultyBlocks() {
		for _, second := range faultyBlocks() {
			if i < 2 {
				continue
			}
			checkTape(t, first.s+second.s, nil, first.code)
			checkTape(t, textWritten(tapeOf(2)...)+first.s+textWritten(tapeOf(1)...)+second.s, nil, first.code)
		}
	}
}

func TestReadTapOfTooManyBlocks(t *testing.T) {
	for n := impl.MaxBlocks + 1; n <= impl.MaxBlocks+6; n++ {
		checkTape(t, textWritten(tapeOf(n)...), nil, impl.ErrMany)
		checkTape(t, textWritten(make([]impl.Block, n)...), nil, impl.ErrMany)
	}
}

// What stands as the block after MaxBlocks is asked for its own faults ahead of ErrMany; what stands behind that one is not asked any more.
func TestReadTapOfAFaultyBlockTooMany(t *testing.T) {
	full := textWritten(tapeOf(impl.MaxBlocks)...)
	for _, faulty := range faultyBlocks() {
		checkTape(t, full+faulty.s, nil, faulty.code)
		checkTape(t, full+"\x02\x00\x07\x07"+faulty.s, nil, impl.ErrMany)
		checkTape(t, full+full+faulty.s, nil, impl.ErrMany)
	}
}

func TestReadTapOfLongTexts(t *testing.T) {
	block := textWritten(blockOf(9, impl.MaxBlock))
	zero := "\x02\x00\x00\x00"
	for n, code := range map[int]int{
		impl.MaxText - 1:   impl.ErrMany,
		impl.MaxText:       impl.ErrMany,
		impl.MaxText + 1:   impl.ErrLong,
		impl.MaxText + 4:   impl.ErrLong,
		2 * impl.MaxText:   impl.ErrLong,
		2*impl.MaxText + 1: impl.ErrLong,
	} {
		checkTape(t, strings.Repeat(block, n/len(block)+1)[:n], nil, code)
		checkTape(t, strings.Repeat(zero, n/len(zero)+1)[:n], nil, code)
	}
	for _, n := range []int{impl.MaxText - 1, impl.MaxText} {
		checkTape(t, strings.Repeat("\x00", n), nil, impl.ErrSize)
		checkTape(t, "\x02\x00\x07\x06"+longText(n-4), nil, impl.ErrSum)
		checkTape(t, strings.Repeat("\xff", n), nil, impl.ErrEnd)
	}
	checkTape(t, ofLength(65534, 0), nil, impl.ErrSize)
	checkTape(t, ofLength(65535, 1), nil, impl.ErrEnd)
	checkTape(t, ofLength(65535, 0), nil, impl.ErrLong)
	checkTape(t, strings.Repeat("\x00", impl.MaxText+1), nil, impl.ErrLong)
}

func TestReadTapOfAllSmallTexts(t *testing.T) {
	smallTexts(func(s string) {
		list, code := tapeWritten(s)
		checkTape(t, s, list, code)
		for n := 5; n <= 6; n++ {
			full := strings.Repeat("\x02\x00\x01\x01", n)
			list, code := tapeWritten(full + s)
			checkTape(t, full+s, list, code)
		}
	})
	for _, s := range anyTexts() {
		list, code := tapeWritten(s)
		checkTape(t, s, list, code)
	}
}

// TakeBlock by TakeBlock the same blocks come.
func TestReadTapIsTakeBlockAgainAndAgain(t *testing.T) {
	l := lot(106)
	for range 300 {
		s := textWritten(l.someTape(l.below(impl.MaxBlocks + 1))...)
		var want []impl.Block
		for c := at(s, 0); c.At < len(s); {
			x, b, code := impl.TakeBlock(c)
			if code != impl.OK {
				t.Fatal("TakeBlock is", code)
			}
			c, want = x, append(want, b)
		}
		checkTape(t, s, want, impl.OK)
	}
}
