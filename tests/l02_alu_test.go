package tests

import (
	"fmt"
	"math"
	"strings"
	"testing"

	"loop.example/g00644/impl"
)

// unitFlags are the flags by their letters, from the highest bit on.
const unitFlags = "SZ5H3PNC"

// flagsOfLetters reads flags from their letters, so that a row of a table tells them one by one.
func flagsOfLetters(letters string) int {
	f := 0
	for _, letter := range letters {
		f |= 128 >> strings.IndexRune(unitFlags, letter)
	}
	return f
}

func lettersOf(f int) string {
	out := ""
	for i, letter := range unitFlags {
		if f&(128>>i) != 0 {
			out += string(letter)
		}
	}
	return out
}

// on is the flag of a letter if it holds.
func on(holds bool, letter string) int {
	if holds {
		return flagsOfLetters(letter)
	}
	return 0
}

func evenBits(v int) bool {
	return strings.Count(fmt.Sprintf("%b", v), "1")%2 == 0
}

// ownFlags are those that tell the result itself.
func ownFlags(v int) int {
	return on(v>>7&1 == 1, "S") | on(v == 0, "Z") | on(v>>5&1 == 1, "5") | on(v>>3&1 == 1, "3")
}

type unitAnswer struct {
	v, f, code int
}

func (u unitAnswer) String() string {
	return fmt.Sprintf("%d %s(%d) code %d", u.v, lettersOf(u.f), u.f, u.code)
}

func answered(v, f, code int) unitAnswer {
	return unitAnswer{v, f, code}
}

func checkUnit(t *testing.T, call string, got, want unitAnswer) {
	t.Helper()
	if got != want {
		t.Errorf("%s: %v, not %v", call, got, want)
	}
}

// wantSum adds bit by bit; the carries out of bits 3, 6 and 7 give the flags.
func wantSum(a, b, carry int) unitAnswer {
	v, out := 0, [8]int{}
	for i := range 8 {
		n := a>>i&1 + b>>i&1 + carry
		v |= n & 1 << i
		carry = n >> 1
		out[i] = carry
	}
	return unitAnswer{v: v, f: ownFlags(v) | on(out[3] == 1, "H") | on(out[6] != out[7], "P") | on(out[7] == 1, "C")}
}

// wantDifference takes away bit by bit, with what is borrowed.
func wantDifference(a, b, borrow int) unitAnswer {
	v, out := 0, [8]int{}
	for i := range 8 {
		n := a>>i&1 - b>>i&1 - borrow
		v |= n & 1 << i
		borrow = 0
		if n < 0 {
			borrow = 1
		}
		out[i] = borrow
	}
	return unitAnswer{v: v, f: ownFlags(v) | on(out[3] == 1, "H") | on(out[6] != out[7], "P") | on(out[7] == 1, "C") | on(true, "N")}
}

func TestFlagConstants(t *testing.T) {
	got := [8]int{impl.FlS, impl.FlZ, impl.Fl5, impl.FlH, impl.Fl3, impl.FlP, impl.FlN, impl.FlC}
	if got != [8]int{128, 64, 32, 16, 8, 4, 2, 1} {
		t.Error("the flags are", got)
	}
}

func TestAdd8OfAllBytes(t *testing.T) {
	for a := range 256 {
		for b := range 256 {
			for carry := range 2 {
				checkUnit(t, fmt.Sprint("Add8 ", a, b, carry), answered(impl.Add8(a, b, carry)), wantSum(a, b, carry))
			}
		}
	}
}

func TestSub8OfAllBytes(t *testing.T) {
	for a := range 256 {
		for b := range 256 {
			for carry := range 2 {
				checkUnit(t, fmt.Sprint("Sub8 ", a, b, carry), answered(impl.Sub8(a, b, carry)), wantDifference(a, b, carry))
			}
		}
	}
}

type unitRow struct {
	a, b, carry, v int
	letters        string
}

func TestAdd8Flags(t *testing.T) {
	for _, r := range []unitRow{
		{0, 0, 0, 0, "Z"},
		{0, 0, 1, 1, ""},
		{7, 8, 0, 15, "3"},
		{7, 8, 1, 16, "H"},
		{15, 0, 1, 16, "H"},
		{15, 15, 1, 31, "H3"},
		{14, 1, 0, 15, "3"},
		{16, 16, 0, 32, "5"},
		{63, 64, 0, 127, "53"},
		{63, 64, 1, 128, "SHP"},
		{127, 0, 1, 128, "SHP"},
		{127, 127, 1, 255, "S5H3P"},
		{128, 127, 0, 255, "S53"},
		{128, 127, 1, 0, "ZHC"},
		{128, 128, 0, 0, "ZPC"},
		{128, 255, 0, 127, "53PC"},
		{128, 255, 1, 128, "SHC"},
		{255, 0, 1, 0, "ZHC"},
		{255, 255, 0, 254, "S5H3C"},
		{255, 255, 1, 255, "S5H3C"},
	} {
		checkUnit(t, fmt.Sprint("Add8 ", r), answered(impl.Add8(r.a, r.b, r.carry)), unitAnswer{v: r.v, f: flagsOfLetters(r.letters)})
	}
}

func TestSub8Flags(t *testing.T) {
	for _, r := range []unitRow{
		{0, 0, 0, 0, "ZN"},
		{0, 0, 1, 255, "S5H3NC"},
		{16, 0, 1, 15, "H3N"},
		{16, 1, 0, 15, "H3N"},
		{31, 15, 0, 16, "N"},
		{31, 15, 1, 15, "H3N"},
		{1, 1, 0, 0, "ZN"},
		{1, 0, 1, 0, "ZN"},
		{128, 0, 1, 127, "5H3PN"},
		{128, 127, 0, 1, "HPN"},
		{128, 128, 0, 0, "ZN"},
		{128, 128, 1, 255, "S5H3NC"},
		{127, 128, 0, 255, "S53PNC"},
		{127, 128, 1, 254, "S53PNC"},
		{127, 255, 1, 127, "5H3NC"},
		{0, 128, 0, 128, "SPNC"},
		{0, 128, 1, 127, "5H3NC"},
		{0, 255, 1, 0, "ZHNC"},
		{255, 255, 1, 255, "S5H3NC"},
	} {
		checkUnit(t, fmt.Sprint("Sub8 ", r), answered(impl.Sub8(r.a, r.b, r.carry)), unitAnswer{v: r.v, f: flagsOfLetters(r.letters)})
	}
}

// bitwise joins two bytes bit by bit by a table of what two bits give.
func bitwise(table [4]int, a, b int) int {
	v := 0
	for i := range 8 {
		v |= table[a>>i&1*2+b>>i&1] << i
	}
	return v
}

func TestLogic8OfAllBytes(t *testing.T) {
	tables := [3][4]int{{0, 0, 0, 1}, {0, 1, 1, 0}, {0, 1, 1, 1}}
	for op, table := range tables {
		for a := range 256 {
			for b := range 256 {
				v := bitwise(table, a, b)
				f := ownFlags(v) | on(evenBits(v), "P") | on(op == 0, "H")
				checkUnit(t, fmt.Sprint("Logic8 ", op, a, b), answered(impl.Logic8(op, a, b)), unitAnswer{v: v, f: f})
			}
		}
	}
}

// Bytes with a sign leave what a byte has only at 127 and at 128; the carry is that of f, and nothing else of f is kept.
func TestInc8AndDec8OfAllBytes(t *testing.T) {
	for a := range 256 {
		for f := range 256 {
			up := (a + 1) % 256
			flags := ownFlags(up) | on(a%16 == 15, "H") | on(a == 127, "P") | f&1
			checkUnit(t, fmt.Sprint("Inc8 ", a, f), answered(impl.Inc8(a, f)), unitAnswer{v: up, f: flags})
			down := (a + 255) % 256
			flags = ownFlags(down) | on(a%16 == 0, "H") | on(a == 128, "P") | on(true, "N") | f&1
			checkUnit(t, fmt.Sprint("Dec8 ", a, f), answered(impl.Dec8(a, f)), unitAnswer{v: down, f: flags})
		}
	}
}

// turnedText turns a byte that is written as eight digits; what goes out is a digit, too.
func turnedText(op int, digits, carry string) (string, string) {
	first, last := digits[:1], digits[7:]
	switch op {
	case 0:
		return digits[1:] + first, first
	case 1:
		return last + digits[:7], last
	case 2:
		return digits[1:] + carry, first
	case 3:
		return carry + digits[:7], last
	case 4:
		return digits[1:] + "0", first
	case 5:
		return first + digits[:7], last
	case 6:
		return digits[1:] + "1", first
	}
	return "0" + digits[:7], last
}

func TestTurn8OfAllBytes(t *testing.T) {
	for op := range 8 {
		for a := range 256 {
			for f := range 256 {
				text, out := turnedText(op, fmt.Sprintf("%08b", a), fmt.Sprint(f%2))
				v := 0
				fmt.Sscanf(text, "%b", &v)
				want := unitAnswer{v: v, f: ownFlags(v) | on(evenBits(v), "P") | on(out == "1", "C")}
				checkUnit(t, fmt.Sprint("Turn8 ", op, a, f), answered(impl.Turn8(op, a, f)), want)
			}
		}
	}
}

// adjustment is the well-known table of decimal adjustment, told row by row: by the carry, the high digit, the half carry and the low digit.
func adjustment(carry, half bool, high, low int) (by int, carries bool) {
	switch {
	case !carry && high <= 9 && !half && low <= 9:
		return 0x00, false
	case !carry && high <= 9 && half && low <= 9:
		return 0x06, false
	case !carry && high <= 8 && low >= 10:
		return 0x06, false
	case !carry && high >= 10 && !half && low <= 9:
		return 0x60, true
	case carry && !half && low <= 9:
		return 0x60, true
	}
	return 0x66, true
}

func TestDaa8OfAllBytes(t *testing.T) {
	for a := range 256 {
		for f := range 256 {
			taken, half := f&2 != 0, f&16 != 0
			by, carries := adjustment(f&1 != 0, half, a/16, a%16)
			v, halves := (a+by)%256, a%16 >= 10
			if taken {
				v, halves = (a+256-by)%256, half && a%16 <= 5
			}
			flags := ownFlags(v) | on(evenBits(v), "P") | on(halves, "H") | on(taken, "N") | on(carries, "C")
			checkUnit(t, fmt.Sprint("Daa8 ", a, f), answered(impl.Daa8(a, f)), unitAnswer{v: v, f: flags})
		}
	}
}

func TestDaa8Flags(t *testing.T) {
	for _, r := range []struct {
		a    int
		f    string
		v    int
		want string
	}{
		{0x00, "", 0x00, "ZP"},
		{0x09, "", 0x09, "3P"},
		{0x0a, "", 0x10, "H"},
		{0x99, "", 0x99, "S3P"},
		{0x9a, "", 0x00, "ZHPC"},
		{0xa0, "", 0x00, "ZPC"},
		{0x00, "H", 0x06, "P"},
		{0x00, "C", 0x60, "5PC"},
		{0x00, "HC", 0x66, "5PC"},
		{0xff, "", 0x65, "5HPC"},
		{0x0f, "N", 0x09, "3PN"},
		{0x05, "NH", 0xff, "S5H3PN"},
		{0x06, "NH", 0x00, "ZPN"},
		{0x99, "N", 0x99, "S3PN"},
		{0x9a, "N", 0x34, "5NC"},
		{0x66, "NHC", 0x00, "ZPNC"},
		{0x65, "NHC", 0xff, "S5H3PNC"},
		{0x00, "SZ53P", 0x00, "ZP"},
	} {
		checkUnit(t, fmt.Sprint("Daa8 ", r), answered(impl.Daa8(r.a, flagsOfLetters(r.f))), unitAnswer{v: r.v, f: flagsOfLetters(r.want)})
	}
}

func TestTestBitOfAllBytes(t *testing.T) {
	for bit := range 8 {
		for a := range 256 {
			for f := range 256 {
				one := fmt.Sprintf("%08b", a)[7-bit] == '1'
				want := f%2 | on(true, "H") | ownFlags(a)&flagsOfLetters("53") | on(bit == 7 && one, "S") | on(!one, "ZP")
				got, code := impl.TestBit(bit, a, f)
				checkUnit(t, fmt.Sprint("TestBit ", bit, a, f), answered(0, got, code), unitAnswer{f: want})
			}
		}
	}
}

// beyond are numbers that are neither from 0 to most nor, however they are cut off, taken for such.
func beyond(most int) []int {
	return []int{math.MinInt, math.MinInt + 1, -1 << 32, -65536, -256, -255, -2, -1, most + 1, most + 2, most + 256, 256, 257, 65536, 1 << 32, 1<<32 + 1, math.MaxInt - 1, math.MaxInt}
}

// unitCall is a call of the unit with the greatest that each of its arguments may be.
type unitCall struct {
	name string
	most []int
	call func(args []int) unitAnswer
}

func unitCallsByBounds() []unitCall {
	return []unitCall{
		{"Add8", []int{255, 255, 1}, func(x []int) unitAnswer { return answered(impl.Add8(x[0], x[1], x[2])) }},
		{"Sub8", []int{255, 255, 1}, func(x []int) unitAnswer { return answered(impl.Sub8(x[0], x[1], x[2])) }},
		{"Logic8", []int{2, 255, 255}, func(x []int) unitAnswer { return answered(impl.Logic8(x[0], x[1], x[2])) }},
		{"Inc8", []int{255, 255}, func(x []int) unitAnswer { return answered(impl.Inc8(x[0], x[1])) }},
		{"Dec8", []int{255, 255}, func(x []int) unitAnswer { return answered(impl.Dec8(x[0], x[1])) }},
		{"Turn8", []int{7, 255, 255}, func(x []int) unitAnswer { return answered(impl.Turn8(x[0], x[1], x[2])) }},
		{"Daa8", []int{255, 255}, func(x []int) unitAnswer { return answered(impl.Daa8(x[0], x[1])) }},
		{"TestBit", []int{7, 255, 255}, func(x []int) unitAnswer { f, code := impl.TestBit(x[0], x[1], x[2]); return answered(0, f, code) }},
	}
}

func TestUnitRange(t *testing.T) {
	want := unitAnswer{code: impl.ErrRange}
	for _, c := range unitCallsByBounds() {
		for i, most := range c.most {
			for _, v := range beyond(most) {
				zeros := make([]int, len(c.most))
				zeros[i] = v
				checkUnit(t, fmt.Sprint(c.name, zeros), c.call(zeros), want)
				full := append([]int(nil), c.most...)
				full[i] = v
				checkUnit(t, fmt.Sprint(c.name, full), c.call(full), want)
			}
		}
		if got := c.call(append([]int(nil), c.most...)); got.code != impl.OK {
			t.Error(c.name, "of the greatest it takes:", got)
		}
		if got := c.call(make([]int, len(c.most))); got.code != impl.OK {
			t.Error(c.name, "of noughts:", got)
		}
	}
}
