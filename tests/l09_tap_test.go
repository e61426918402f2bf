package tests

import (
	"fmt"
	"math"
	"strings"
	"testing"

	"loop.example/g00644/impl"
)

// sumWritten goes bit by bit: a bit is on if an odd number of the bytes has it.
func sumWritten(flag int, data string) int {
	bytes := []int{flag}
	for _, v := range []byte(data) {
		bytes = append(bytes, int(v))
	}
	sum := 0
	for bit := 1; bit <= 128; bit *= 2 {
		having := 0
		for _, v := range bytes {
			having += v / bit % 2
		}
		sum += bit * (having % 2)
	}
	return sum
}

// bytesWritten is what a block's text is made of, number by number.
func bytesWritten(b impl.Block) []int {
	n := len(b.Data) + 2
	bytes := []int{n % 256, n / 256, b.Flag}
	for i := range len(b.Data) {
		bytes = append(bytes, int(b.Data[i]))
	}
	return append(bytes, sumWritten(b.Flag, b.Data))
}

func textWritten(list ...impl.Block) string {
	var out []byte
	for _, b := range list {
		for _, v := range bytesWritten(b) {
			out = append(out, byte(v))
		}
	}
	return string(out)
}

// blockOf has n bytes, of which no two neighbours are alike, nor two blocks of other flags.
func blockOf(flag, n int) impl.Block {
	data := make([]byte, n)
	for i := range data {
		data[i] = byte(200 + 31*i + 7*flag)
	}
	return impl.Block{Flag: flag, Data: string(data)}
}

func (l *lot) someBlock() impl.Block {
	lengths := []int{0, 1, 2, 20, impl.MaxBlock - 1, impl.MaxBlock, l.below(impl.MaxBlock + 1)}
	data := make([]byte, lengths[l.below(len(lengths))])
	for i := range data {
		data[i] = byte(l.someByte())
	}
	return impl.Block{Flag: l.someByte(), Data: string(data)}
}

func (l *lot) someTape(n int) []impl.Block {
	list := make([]impl.Block, n)
	for i := range list {
		list[i] = l.someBlock()
	}
	return list
}

// tapeOf has n blocks, each of another flag and another length.
func tapeOf(n int) []impl.Block {
	list := make([]impl.Block, n)
	for i := range list {
		list[i] = blockOf(11*i, 3*i)
	}
	return list
}

// wrongBlocks have one fault each, and one of them both.
func wrongBlocks() []impl.Block {
	var list []impl.Block
	for _, flag := range noBytes() {
		list = append(list, impl.Block{Flag: flag}, blockOf(flag, 1), blockOf(flag, impl.MaxBlock))
	}
	for _, n := range []int{impl.MaxBlock + 1, impl.MaxBlock + 2, 2 * impl.MaxBlock, 255, 256, 296, 65535, impl.MaxText, impl.MaxText + 1, impl.MaxText + impl.MaxBlock} {
		list = append(list, blockOf(0, n), blockOf(255, n), impl.Block{Flag: 7, Data: strings.Repeat("\x00", n)})
	}
	return append(list, blockOf(256, impl.MaxBlock+1))
}

func TestBlockLimits(t *testing.T) {
	if impl.MaxBlocks != 6 || impl.MaxBlock != 40 {
		t.Error("MaxBlocks and MaxBlock are", impl.MaxBlocks, impl.MaxBlock)
	}
}

func TestBlockOKByFlag(t *testing.T) {
	for _, n := range []int{0, 1, impl.MaxBlock} {
		for flag := -600; flag <= 600; flag++ {
			if got, want := impl.BlockOK(blockOf(flag, n)), flag >= 0 && flag <= 255; got != want {
				t.Error("with flag", flag, "and", n, "bytes BlockOK is", got)
			}
		}
		for _, flag := range []int{math.MinInt, -1 << 32, 1 << 32, 1<<32 + 7, math.MaxInt} {
			if impl.BlockOK(blockOf(flag, n)) {
				t.Error("with flag", flag, "and", n, "bytes BlockOK is true")
			}
		}
	}
}

func TestBlockOKByLength(t *testing.T) {
	for _, flag := range []int{0, 1, 127, 128, 254, 255} {
		for n := range 300 {
			if got, want := impl.BlockOK(blockOf(flag, n)), n <= 40; got != want {
				t.Error("with flag", flag, "and", n, "bytes BlockOK is", got)
			}
		}
	}
	for _, n := range []int{255, 256, 65535, impl.MaxText, impl.MaxText + 1, 3 * impl.MaxText} {
		if impl.BlockOK(impl.Block{Data: longText(n)}) {
			t.Error("with", n, "bytes BlockOK is true")
		}
	}
}

func TestWrongBlocksHaveNoText(t *testing.T) {
	for _, b := range wrongBlocks() {
		if impl.BlockOK(b) {
			t.Error("BlockOK of", short(b))
		}
		if v, code := impl.SumOf(b); v != 0 || code != impl.ErrBad {
			t.Error("SumOf of", short(b), "is", v, code)
		}
		if s, code := impl.BlockText(b); s != "" || code != impl.ErrBad {
			t.Error("BlockText of", short(b), "is", short(s), code)
		}
		if s, code := impl.TapText([]impl.Block{b}); s != "" || code != impl.ErrBad {
			t.Error("TapText of", short(b), "is", short(s), code)
		}
	}
}

func checkSum(t *testing.T, b impl.Block, want int) {
	t.Helper()
	if v, code := impl.SumOf(b); v != want || code != impl.OK {
		t.Errorf("SumOf of flag %d with %x is %d %d, not %d", b.Flag, b.Data, v, code, want)
	}
}

func TestSumOfNoDataIsTheFlag(t *testing.T) {
	for flag := range 256 {
		checkSum(t, impl.Block{Flag: flag}, flag)
	}
}

func TestSumOfOneByte(t *testing.T) {
	for flag := range 256 {
		for v := range 256 {
			checkSum(t, impl.Block{Flag: flag, Data: string([]byte{byte(v)})}, sumWritten(flag, string([]byte{byte(v)})))
		}
	}
}

// Of bytes that are all alike two and two are nothing.
func TestSumOfBytesAllAlike(t *testing.T) {
	for v := range 256 {
		for n := range impl.MaxBlock + 1 {
			for _, flag := range []int{0, 85, 170, 255, v} {
				want := flag
				if n%2 == 1 {
					want = sumWritten(flag, string([]byte{byte(v)}))
				}
				checkSum(t, impl.Block{Flag: flag, Data: strings.Repeat(string([]byte{byte(v)}), n)}, want)
			}
		}
	}
}

// Each byte counts, wherever it stands.
func TestSumOfOneByteAmongNoughts(t *testing.T) {
	for n := 1; n <= impl.MaxBlock; n++ {
		for i := range n {
			data := make([]byte, n)
			data[i] = 0xa5
			checkSum(t, impl.Block{Data: string(data)}, 0xa5)
			checkSum(t, impl.Block{Flag: 0xff, Data: string(data)}, 0x5a)
		}
	}
}

func TestSumOfMaxBlockBytes(t *testing.T) {
	for flag := range 256 {
		b := blockOf(flag, impl.MaxBlock)
		checkSum(t, b, sumWritten(flag, b.Data))
	}
	l := lot(100)
	for range 3000 {
		b := l.someBlock()
		checkSum(t, b, sumWritten(b.Flag, b.Data))
	}
}

func TestSumsWrittenOut(t *testing.T) {
	for _, c := range []struct {
		flag int
		data string
		want int
	}{
		{0, "", 0}, {255, "", 255}, {128, "", 128},
		{0, "\x00", 0}, {0, "\xff", 255}, {255, "\xff", 0}, {1, "\x02", 3}, {3, "\x01", 2},
		{255, "\x01\x02", 252}, {0x0f, "\xf0\x3c", 0xc3}, {7, "\x07\x07", 7},
		{0, "\x01\x02\x04\x08\x10\x20\x40\x80", 255}, {0, "abc", 0x60},
	} {
		checkSum(t, impl.Block{Flag: c.flag, Data: c.data}, c.want)
		if sumWritten(c.flag, c.data) != c.want {
			t.Errorf("sumWritten of %d with %x", c.flag, c.data)
		}
	}
}

func checkBlockText(t *testing.T, b impl.Block) {
	t.Helper()
	s, code := impl.BlockText(b)
	want := bytesWritten(b)
	if code != impl.OK || len(s) != len(want) {
		t.Errorf("BlockText of flag %d with %x is %x %d", b.Flag, b.Data, s, code)
		return
	}
	for i, v := range want {
		if int(s[i]) != v {
			t.Errorf("BlockText of flag %d with %x has %d at %d, not %d", b.Flag, b.Data, s[i], i, v)
		}
	}
}

func TestBlockTextByteByByte(t *testing.T) {
	for flag := range 256 {
		for _, n := range []int{0, 1, 2, 39, impl.MaxBlock} {
			checkBlockText(t, blockOf(flag, n))
		}
		for v := range 256 {
			checkBlockText(t, impl.Block{Flag: flag, Data: string([]byte{byte(v)})})
		}
	}
	for n := range impl.MaxBlock + 1 {
		checkBlockText(t, blockOf(200, n))
		checkBlockText(t, impl.Block{Flag: 200, Data: strings.Repeat("\x00", n)})
	}
	l := lot(101)
	for range 2000 {
		checkBlockText(t, l.someBlock())
	}
}

func TestBlockTextsWrittenOut(t *testing.T) {
	for _, c := range []struct {
		b    impl.Block
		want string
	}{
		{impl.Block{}, "02000000"},
		{impl.Block{Flag: 7}, "02000707"},
		{impl.Block{Flag: 255}, "0200ffff"},
		{impl.Block{Flag: 0, Data: "\x80"}, "0300008080"},
		{impl.Block{Flag: 255, Data: "\x00"}, "0300ff00ff"},
		{impl.Block{Flag: 1, Data: "\xc3\xa9"}, "040001c3a96b"},
		{impl.Block{Flag: 16, Data: strings.Repeat("\x00", 39) + "\x01"}, "2a0010" + strings.Repeat("00", 39) + "0111"},
	} {
		if s, code := impl.BlockText(c.b); fmt.Sprintf("%x", s) != c.want || code != impl.OK {
			t.Errorf("BlockText of %s is %x %d", short(c.b), s, code)
		}
	}
}

func checkTapText(t *testing.T, list []impl.Block) {
	t.Helper()
	if s, code := impl.TapText(list); s != textWritten(list...) || code != impl.OK {
		t.Errorf("TapText of %d blocks is %s %d", len(list), short(s), code)
	}
}

func TestTapTextOfEachNumberOfBlocks(t *testing.T) {
	checkTapText(t, nil)
	checkTapText(t, []impl.Block{})
	l := lot(102)
	for n := range impl.MaxBlocks + 1 {
		checkTapText(t, tapeOf(n))
		checkTapText(t, make([]impl.Block, n))
		for range 200 {
			checkTapText(t, l.someTape(n))
		}
	}
	for flag := range 256 {
		checkTapText(t, []impl.Block{blockOf(flag, 1), blockOf(255-flag, 0)})
	}
	full := make([]impl.Block, impl.MaxBlocks)
	for i := range full {
		full[i] = blockOf(255-i, impl.MaxBlock)
	}
	checkTapText(t, full)
}

func TestTapTextWithOneWrongBlock(t *testing.T) {
	for n := 1; n <= impl.MaxBlocks+1; n++ {
		for i := range n {
			for _, wrong := range []impl.Block{{Flag: -1}, {Flag: 256}, {Flag: math.MinInt}, {Flag: math.MaxInt}, blockOf(0, impl.MaxBlock+1), blockOf(0, impl.MaxText+1)} {
				list := tapeOf(n)
				list[i] = wrong
				if s, code := impl.TapText(list); s != "" || code != impl.ErrBad {
					t.Error("with a wrong block at", i, "of", n, "TapText is", short(s), code)
				}
			}
		}
	}
}

// More blocks than MaxBlocks are ErrBad up to MaxList, ErrLong beyond it, whether the blocks are right or not.
func TestTapTextOfTooManyBlocks(t *testing.T) {
	for n, want := range map[int]int{
		impl.MaxBlocks + 1: impl.ErrBad,
		impl.MaxBlocks + 2: impl.ErrBad,
		256:                impl.ErrBad,
		impl.MaxList - 1:   impl.ErrBad,
		impl.MaxList:       impl.ErrBad,
		impl.MaxList + 1:   impl.ErrLong,
		impl.MaxList + 2:   impl.ErrLong,
		2 * impl.MaxList:   impl.ErrLong,
		impl.MaxText + 1:   impl.ErrLong,
	} {
		for _, b := range []impl.Block{{}, blockOf(9, 3), {Flag: 256}, blockOf(0, impl.MaxBlock+1)} {
			list := make([]impl.Block, n)
			for i := range list {
				list[i] = b
			}
			if s, code := impl.TapText(list); s != "" || code != want {
				t.Error("of", n, "blocks TapText is", short(s), code, "not", want)
			}
		}
	}
}

// A tape's text is its blocks' texts, one behind the other.
func TestTapTextIsBlockTexts(t *testing.T) {
	l := lot(103)
	for n := range impl.MaxBlocks + 1 {
		for range 100 {
			list, want := l.someTape(n), ""
			for _, b := range list {
				s, _ := impl.BlockText(b)
				want += s
			}
			if s, code := impl.TapText(list); s != want || code != impl.OK {
				t.Error("of", n, "blocks TapText is", short(s), code)
			}
		}
	}
}
