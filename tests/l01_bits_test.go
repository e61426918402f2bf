package tests

import (
	"fmt"
	"math"
	"strings"
	"testing"

	"loop.example/g00644/impl"
)

func TestParity(t *testing.T) {
	for v := range 256 {
		want := strings.Count(fmt.Sprintf("%b", v), "1")%2 == 0
		if impl.Parity(v) != want {
			t.Error("Parity", v)
		}
	}
	for _, v := range []int{math.MinInt, -256, -255, -3, -1, 256, 257, 259, 65535, 1 << 32, math.MaxInt} {
		if impl.Parity(v) {
			t.Error("Parity of what is no byte", v)
		}
	}
}

type takeAnswer struct {
	c     impl.Cursor
	taken string
	code  int
}

// wantTake is the chapter's rule, told once more: ErrBad, then ErrRange, then ErrEnd.
func wantTake(c impl.Cursor, n int) takeAnswer {
	if len(c.Data) > impl.MaxText || c.At < 0 || c.At > len(c.Data) {
		return takeAnswer{code: impl.ErrBad}
	}
	if n < 0 || n > impl.MaxText {
		return takeAnswer{code: impl.ErrRange}
	}
	rest := c.Data[c.At:]
	if n > len(rest) {
		return takeAnswer{c: c, code: impl.ErrEnd}
	}
	return takeAnswer{c: impl.Cursor{Data: c.Data, At: c.At + n}, taken: rest[:n]}
}

func checkTakeBytes(t *testing.T, c impl.Cursor, n int) {
	t.Helper()
	x, s, code := impl.TakeBytes(c, n)
	if got, want := (takeAnswer{x, s, code}), wantTake(c, n); got != want {
		t.Errorf("TakeBytes(%d bytes at %d, %d): %s, not %s", len(c.Data), c.At, n, short(got), short(want))
	}
}

func checkTakeNumbers(t *testing.T, c impl.Cursor) {
	t.Helper()
	want := wantTake(c, 1)
	n := 0
	if want.code == 0 {
		n = int(want.taken[0])
	}
	if x, got, code := impl.TakeByte(c); x != want.c || got != n || code != want.code {
		t.Errorf("TakeByte(%d bytes at %d): %s %d %d", len(c.Data), c.At, short(x), got, code)
	}
	want, n = wantTake(c, 2), 0
	if want.code == 0 {
		n = int(want.taken[0]) | int(want.taken[1])<<8
	}
	if x, got, code := impl.TakeWord(c); x != want.c || got != n || code != want.code {
		t.Errorf("TakeWord(%d bytes at %d): %s %d %d", len(c.Data), c.At, short(x), got, code)
	}
}

func TestTakeOfAnyCursor(t *testing.T) {
	for _, c := range anyCursors() {
		checkTakeNumbers(t, c)
		for _, n := range anyNumbers() {
			checkTakeBytes(t, c, n)
		}
		for _, n := range []int{len(c.Data) - c.At - 1, len(c.Data) - c.At, len(c.Data) - c.At + 1} {
			checkTakeBytes(t, c, n)
		}
	}
}

func TestTakeEverywhere(t *testing.T) {
	for size := range 7 {
		data := longText(size) + "\xff"
		for at := -1; at <= len(data)+1; at++ {
			c := impl.Cursor{Data: data, At: at}
			checkTakeNumbers(t, c)
			for n := -1; n <= len(data)+1; n++ {
				checkTakeBytes(t, c, n)
			}
		}
	}
}

func TestTakeByteOfEachByte(t *testing.T) {
	for v := range 256 {
		c := impl.Cursor{Data: "x" + string([]byte{byte(v)}), At: 1}
		if x, n, code := impl.TakeByte(c); n != v || code != 0 || x != (impl.Cursor{Data: c.Data, At: 2}) {
			t.Error("TakeByte", v, x, n, code)
		}
	}
}

func TestTakeAtTheEnd(t *testing.T) {
	for _, n := range []int{0, 1, 5, impl.MaxText - 1, impl.MaxText} {
		c := impl.Cursor{Data: longText(n), At: n}
		if x, v, code := impl.TakeByte(c); x != c || v != 0 || code != impl.ErrEnd {
			t.Error("TakeByte at the end of", n, short(x), v, code)
		}
		if x, v, code := impl.TakeWord(c); x != c || v != 0 || code != impl.ErrEnd {
			t.Error("TakeWord at the end of", n, short(x), v, code)
		}
		if x, s, code := impl.TakeBytes(c, 1); x != c || s != "" || code != impl.ErrEnd {
			t.Error("TakeBytes at the end of", n, short(x), short(s), code)
		}
		if x, s, code := impl.TakeBytes(c, 0); x != c || s != "" || code != 0 {
			t.Error("TakeBytes of nothing at the end of", n, short(x), short(s), code)
		}
	}
}

func TestTakeWordOfHalfAWord(t *testing.T) {
	c := impl.Cursor{Data: "ab\x07", At: 2}
	if x, v, code := impl.TakeWord(c); x != c || v != 0 || code != impl.ErrEnd {
		t.Error("TakeWord", x, v, code)
	}
	if x, v, code := impl.TakeByte(c); x.At != 3 || v != 7 || code != 0 {
		t.Error("TakeByte", x, v, code)
	}
}

func TestTakeBytesOfAllAndMore(t *testing.T) {
	c := impl.Cursor{Data: longText(impl.MaxText)}
	if x, s, code := impl.TakeBytes(c, impl.MaxText); s != c.Data || x.At != impl.MaxText || code != 0 {
		t.Error("TakeBytes of MaxText", x.At, code)
	}
	if x, s, code := impl.TakeBytes(c, impl.MaxText+1); s != "" || x != (impl.Cursor{}) || code != impl.ErrRange {
		t.Error("TakeBytes of more than MaxText", short(x), code)
	}
	c.At = 1
	if x, s, code := impl.TakeBytes(c, impl.MaxText); s != "" || x != c || code != impl.ErrEnd {
		t.Error("TakeBytes of more than is left", short(x), code)
	}
}

// Texts within a struct are bounded by their own chapter: it is ErrBad, not ErrLong.
func TestTakeOfTooMuchData(t *testing.T) {
	for _, at := range []int{0, 1, impl.MaxText, impl.MaxText + 1} {
		c := impl.Cursor{Data: longText(impl.MaxText + 1), At: at}
		if x, v, code := impl.TakeByte(c); x != (impl.Cursor{}) || v != 0 || code != impl.ErrBad {
			t.Error("TakeByte", at, short(x), v, code)
		}
		if x, v, code := impl.TakeWord(c); x != (impl.Cursor{}) || v != 0 || code != impl.ErrBad {
			t.Error("TakeWord", at, short(x), v, code)
		}
		if x, s, code := impl.TakeBytes(c, 0); x != (impl.Cursor{}) || s != "" || code != impl.ErrBad {
			t.Error("TakeBytes", at, short(x), short(s), code)
		}
	}
}

func TestTakeFaultsInTheirOrder(t *testing.T) {
	bad := impl.Cursor{Data: "abc", At: 4}
	end := impl.Cursor{Data: "abc", At: 3}
	for _, n := range []int{math.MinInt, -1, impl.MaxText + 1, math.MaxInt} {
		if x, s, code := impl.TakeBytes(bad, n); x != (impl.Cursor{}) || s != "" || code != impl.ErrBad {
			t.Error("ErrBad is ahead of ErrRange", n, x, short(s), code)
		}
		if x, s, code := impl.TakeBytes(end, n); x != (impl.Cursor{}) || s != "" || code != impl.ErrRange {
			t.Error("ErrRange is ahead of ErrEnd", n, x, short(s), code)
		}
	}
}

// Bytes that are taken one after the other, however many at a time, are the data.
func TestTakenPiecesAreTheData(t *testing.T) {
	data := longText(1000)
	for size := 1; size <= 41; size++ {
		c, all := impl.Cursor{Data: data}, ""
		for {
			x, s, code := impl.TakeBytes(c, size)
			if code != 0 {
				break
			}
			c, all = x, all+s
		}
		if c.At != len(data)/size*size || all != data[:c.At] {
			t.Error("pieces of", size, "end at", c.At)
		}
	}
}

func TestWordsThatWerePutAreTaken(t *testing.T) {
	for v := range 65536 {
		s, code := impl.PutWord("ab", v)
		if code != 0 || len(s) != 4 || s[:2] != "ab" || int(s[2]) != v%256 || int(s[3]) != v/256 {
			t.Fatalf("PutWord of %d: %q %d", v, s, code)
		}
		x, got, code := impl.TakeWord(impl.Cursor{Data: s, At: 2})
		if got != v || code != 0 || x != (impl.Cursor{Data: s, At: 4}) {
			t.Fatal("TakeWord", v, x, got, code)
		}
	}
}

func TestManyWordsAreTakenInTheirOrder(t *testing.T) {
	all := ""
	for v := 0; v < 65536; v += 251 {
		s, code := impl.PutWord(all, v)
		if code != 0 {
			t.Fatal("PutWord", v, code)
		}
		all = s
	}
	c := impl.Cursor{Data: all}
	for v := 0; v < 65536; v += 251 {
		x, got, code := impl.TakeWord(c)
		if got != v || code != 0 {
			t.Fatal("TakeWord", v, got, code)
		}
		c = x
	}
	if _, _, code := impl.TakeWord(c); code != impl.ErrEnd {
		t.Error("more was taken than was put", code)
	}
}

func TestPutWordBounds(t *testing.T) {
	for _, v := range []int{math.MinInt, -65536, -1, 65536, 65537, 1 << 32, math.MaxInt} {
		if s, code := impl.PutWord("ab", v); s != "" || code != impl.ErrRange {
			t.Error("PutWord", v, short(s), code)
		}
	}
	for _, v := range []int{0, 1, 65534, 65535} {
		t0 := longText(impl.MaxText - 2)
		s, code := impl.PutWord(t0, v)
		if code != 0 || len(s) != impl.MaxText || s[:impl.MaxText-2] != t0 {
			t.Error("PutWord into the last room", v, len(s), code)
		}
		if x, got, code := impl.TakeWord(impl.Cursor{Data: s, At: impl.MaxText - 2}); got != v || code != 0 || x.At != impl.MaxText {
			t.Error("TakeWord of the last room", v, got, code)
		}
	}
}

func TestPutWordFaultsInTheirOrder(t *testing.T) {
	for n, want := range map[int][2]int{
		impl.MaxText - 2: {impl.OK, impl.ErrRange},
		impl.MaxText - 1: {impl.ErrFull, impl.ErrRange},
		impl.MaxText:     {impl.ErrFull, impl.ErrRange},
		impl.MaxText + 1: {impl.ErrLong, impl.ErrLong},
		impl.MaxText * 2: {impl.ErrLong, impl.ErrLong},
	} {
		s, code := impl.PutWord(longText(n), 65535)
		if code != want[0] || code != 0 && s != "" {
			t.Error("PutWord behind", n, len(s), code)
		}
		for _, v := range []int{-1, 65536} {
			if s, code := impl.PutWord(longText(n), v); code != want[1] || s != "" {
				t.Error("PutWord of", v, "behind", n, len(s), code)
			}
		}
	}
}

func TestXorOf(t *testing.T) {
	for v := range 256 {
		b := string([]byte{byte(v)})
		if got := impl.XorOf(b); got != v {
			t.Error("XorOf of one byte", v, got)
		}
		if got := impl.XorOf(b + "\x00" + b + b + "\x55\xaa"); got != v^255 {
			t.Error("XorOf", v, got)
		}
	}
	if impl.XorOf("") != 0 {
		t.Error("XorOf of nothing")
	}
	for n, want := range map[int]int{impl.MaxText - 1: 0x11, impl.MaxText: 0x11, impl.MaxText + 1: 0, 2 * impl.MaxText: 0} {
		if got := impl.XorOf("\x11" + strings.Repeat("\x00", n-1)); got != want {
			t.Error("XorOf of", n, "bytes:", got)
		}
		if got := impl.XorOf(strings.Repeat("\x00", n-1) + "\x11"); got != want {
			t.Error("XorOf of", n, "bytes:", got)
		}
	}
}

func TestHexOf(t *testing.T) {
	if impl.HexOf("") != "" {
		t.Error("HexOf of nothing")
	}
	for v := range 256 {
		s := string([]byte{byte(v), byte(255 - v)})
		if got, want := impl.HexOf(s), fmt.Sprintf("%02x%02x", v, 255-v); got != want {
			t.Errorf("HexOf(%q): %q, not %q", s, got, want)
		}
	}
	for _, n := range []int{impl.MaxText/2 - 1, impl.MaxText / 2} {
		if s := longText(n); impl.HexOf(s) != fmt.Sprintf("%x", s) {
			t.Error("HexOf of", n, "bytes")
		}
	}
	for _, n := range []int{impl.MaxText/2 + 1, impl.MaxText, impl.MaxText + 1} {
		if got := impl.HexOf(longText(n)); got != "" {
			t.Error("HexOf of", n, "bytes:", len(got))
		}
	}
}

func TestBytesAreReadBackFromTheirDigits(t *testing.T) {
	for _, n := range []int{0, 1, 2, 3, 40, 255, 256, 257, impl.MaxText/2 - 1, impl.MaxText / 2} {
		s := longText(n)
		if got, code := impl.BytesOf(impl.HexOf(s)); got != s || code != 0 {
			t.Error("BytesOf of HexOf of", n, "bytes:", len(got), code)
		}
	}
}

func TestBytesOfEachPair(t *testing.T) {
	const digits = "0123456789abcdef"
	for high := range 256 {
		for low := range 256 {
			s := string([]byte{byte(high), byte(low)})
			h, l := strings.IndexByte(digits, byte(high)), strings.IndexByte(digits, byte(low))
			want, wantCode := "", impl.ErrForm
			if h >= 0 && l >= 0 {
				want, wantCode = string([]byte{byte(16*h + l)}), 0
			}
			if got, code := impl.BytesOf(s); got != want || code != wantCode {
				t.Errorf("BytesOf(%q): %q %d", s, got, code)
			}
		}
	}
}

func TestBytesOfWhatIsNotDigits(t *testing.T) {
	for _, s := range []string{"0", "000", "0a0", "0A", "0x00", "00 0", "00 00", "000g", "g000", "00\n", "é", "0é0", "00\x00\x00"} {
		if got, code := impl.BytesOf(s); got != "" || code != impl.ErrForm {
			t.Errorf("BytesOf(%q): %q %d", s, got, code)
		}
	}
	zeros := strings.Repeat("0", impl.MaxText)
	for s, want := range map[string]int{zeros: impl.OK, zeros[1:]: impl.ErrForm, zeros[1:] + "g": impl.ErrForm, "g" + zeros[1:]: impl.ErrForm} {
		if got, code := impl.BytesOf(s); code != want || code != 0 && got != "" {
			t.Error("BytesOf of", len(s), "bytes:", len(got), code)
		}
	}
}

func TestBytesOfFaultsInTheirOrder(t *testing.T) {
	for _, s := range []string{strings.Repeat("0", impl.MaxText+1), strings.Repeat("0", impl.MaxText+2), strings.Repeat("g", impl.MaxText+1), strings.Repeat("g", impl.MaxText+2)} {
		if got, code := impl.BytesOf(s); got != "" || code != impl.ErrLong {
			t.Error("BytesOf of", len(s), "bytes:", len(got), code)
		}
	}
}
