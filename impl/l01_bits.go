package impl

import (
	"errors"
	"math/bits"
)

const hexDigits = "0123456789abcdef"

var (
	errCursor = errors.New("the cursor does not stand in its data")
	errCount  = errors.New("no text has so many bytes")
	errAtEnd  = errors.New("the cursor's data ends ahead of that")
)

type Cursor struct {
	Data string
	At   int
}

func (c Cursor) stands() bool {
	return len(c.Data) <= MaxText && c.At >= 0 && c.At <= len(c.Data)
}

// take looks for the faults in the order in which the document names them, so that all that takes from a cursor agrees on it.
func (c Cursor) take(n int) (Cursor, string, error) {
	if !c.stands() {
		return Cursor{}, "", errCursor
	}
	if n < 0 || n > MaxText {
		return Cursor{}, "", errCount
	}
	end := c.At + n
	if end > len(c.Data) {
		return c, "", errAtEnd
	}
	return Cursor{Data: c.Data, At: end}, c.Data[c.At:end], nil
}

func takeCode(err error) int {
	switch {
	case err == nil:
		return OK
	case errors.Is(err, errAtEnd):
		return ErrEnd
	case errors.Is(err, errCount):
		return ErrRange
	}
	return ErrBad
}

// wordOf is of two bytes.
func wordOf(t string) int {
	return int(t[0]) + 256*int(t[1])
}

func isByte(v int) bool {
	return v >= 0 && v <= 255
}

func Parity(v int) bool {
	return isByte(v) && bits.OnesCount8(uint8(v))%2 == 0
}

func TakeByte(c Cursor) (Cursor, int, int) {
	next, t, err := c.take(1)
	if err != nil {
		return next, 0, takeCode(err)
	}
	return next, int(t[0]), OK
}

func TakeWord(c Cursor) (Cursor, int, int) {
	next, t, err := c.take(2)
	if err != nil {
		return next, 0, takeCode(err)
	}
	return next, wordOf(t), OK
}

func TakeBytes(c Cursor, n int) (Cursor, string, int) {
	next, t, err := c.take(n)
	return next, t, takeCode(err)
}

func PutWord(t string, v int) (string, int) {
	if len(t) > MaxText {
		return "", ErrLong
	}
	if v < 0 || v > 65535 {
		return "", ErrRange
	}
	if len(t)+2 > MaxText {
		return "", ErrFull
	}
	return t + string([]byte{byte(v % 256), byte(v / 256)}), OK
}

func XorOf(t string) int {
	if len(t) > MaxText {
		return 0
	}
	x := 0
	for i := range len(t) {
		x ^= int(t[i])
	}
	return x
}

func HexOf(t string) string {
	if len(t) > MaxText/2 {
		return ""
	}
	out := make([]byte, 0, 2*len(t))
	for i := range len(t) {
		out = append(out, hexDigits[t[i]/16], hexDigits[t[i]%16])
	}
	return string(out)
}

func BytesOf(t string) (string, int) {
	if len(t) > MaxText {
		return "", ErrLong
	}
	bytes, whole := hexBytes(t)
	if !whole {
		return "", ErrForm
	}
	return bytes, OK
}

// hexBytes asks nothing of how long a text is: a console's lines are not bounded as the texts of calls are.
func hexBytes(t string) (string, bool) {
	if len(t)%2 != 0 {
		return "", false
	}
	out := make([]byte, 0, len(t)/2)
	for i := 0; i < len(t); i += 2 {
		high, low := hexValue(t[i]), hexValue(t[i+1])
		if high < 0 || low < 0 {
			return "", false
		}
		out = append(out, byte(16*high+low))
	}
	return string(out), true
}

// hexValue knows small letters alone, as HexOf writes no others; -1 says that b is no digit.
func hexValue(b byte) int {
	switch {
	case isDigit(b):
		return int(b - '0')
	case b >= 'a' && b <= 'f':
		return int(b-'a') + 10
	}
	return -1
}
