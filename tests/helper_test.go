package tests

import (
	"fmt"
	"math"
	"strings"

	"loop.example/g00644/impl"
)

// anyNumbers holds the ends of all ranges that the chapters name, what lies beside them, and the ends of int.
func anyNumbers() []int {
	list := []int{math.MinInt, math.MinInt + 1, math.MaxInt - 1, math.MaxInt}
	for _, end := range []int{0, 3, 8, 19, 40, 127, 255, 4096, 32768, 65535, 65536, 1 << 31, 1 << 32, -256, -65536, -1 << 31} {
		list = append(list, end-1, end, end+1)
	}
	return list
}

// longText is of n bytes, no two neighbours alike.
func longText(n int) string {
	b := make([]byte, n)
	for i := range b {
		b[i] = byte(i*7 + i/256)
	}
	return string(b)
}

func anyTexts() []string {
	list := []string{"", "a", "_", "0", "00", "0g", "ff", "FF", "abc", "ok", "halt", "Halt", "ok ", "é", "\x00", "\xff\xfe\xfd", " ", "\n", "-1"}
	for _, n := range []int{impl.MaxName, impl.MaxText / 2, impl.MaxText} {
		for m := n - 2; m <= n+2; m++ {
			list = append(list, longText(m), strings.Repeat("a", m))
		}
	}
	return append(list, longText(3*impl.MaxText))
}

func anyCursors() []impl.Cursor {
	var list []impl.Cursor
	for _, t := range anyTexts() {
		n := len(t)
		for _, at := range []int{math.MinInt, -n - 1, -2, -1, 0, 1, 2, n / 2, n - 2, n - 1, n, n + 1, n + 2, impl.MaxText, impl.MaxText + 1, math.MaxInt - 1, math.MaxInt} {
			list = append(list, impl.Cursor{Data: t, At: at})
		}
	}
	return list
}

// caught makes a call and tells its answers; a panic is told as one of them.
func caught(call func() []any) (answers []any, panicked bool) {
	defer func() {
		if r := recover(); r != nil {
			answers, panicked = []any{fmt.Sprint(r)}, true
		}
	}()
	return call(), false
}

// short keeps a message readable when the text is long.
func short(v any) string {
	s := fmt.Sprintf("%#v", v)
	if len(s) > 120 {
		return s[:120] + ".."
	}
	return s
}
