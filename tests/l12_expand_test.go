package tests

import (
	"math"
	"slices"
	"strings"
	"testing"

	"loop.example/g00644/impl"
)

// givenBy is all that a text gives, up to a run that is cut off.
func givenBy(s string) (given string, cut bool) {
	var out strings.Builder
	for s != "" {
		rest, begins := strings.CutPrefix(s, mark+mark)
		switch {
		case !begins:
			out.WriteByte(s[0])
			s = s[1:]
		case len(rest) < 2:
			return out.String(), true
		default:
			for range rest[0] {
				out.WriteByte(rest[1])
			}
			s = rest[2:]
		}
	}
	return out.String(), false
}

// expandWritten asks only when all is given: what is too much stands ahead of what is cut off, what is too little would stand behind it.
func expandWritten(s string, n int) (string, int) {
	if len(s) > 65536 {
		return "", impl.ErrLong
	}
	if n < 0 || n > 4096 {
		return "", impl.ErrRange
	}
	given, cut := givenBy(s)
	switch {
	case len(given) > n:
		return "", impl.ErrSize
	case cut:
		return "", impl.ErrEnd
	case len(given) < n:
		return "", impl.ErrSize
	}
	return given, impl.OK
}

func checkExpand(t *testing.T, s string, n int, want string, wantCode int) {
	t.Helper()
	if got, code := impl.Expand(s, n); got != want || code != wantCode {
		t.Errorf("Expand of %d bytes %.60x to %d is %d bytes %.60x %d, not %d bytes %.60x %d", len(s), s, n, len(got), got, code, len(want), want, wantCode)
	}
}

func checkExpandAsWritten(t *testing.T, s string, n int) {
	t.Helper()
	want, code := expandWritten(s, n)
	checkExpand(t, s, n, want, code)
}

// noSizes are what n may not be.
func noSizes() []int {
	return []int{math.MinInt, math.MinInt + 1, -1 << 32, -mostRaw, -2, -1, mostRaw + 1, mostRaw + 2, impl.MaxText, 1 << 32, 1<<32 + 3, math.MaxInt - 1, math.MaxInt}
}

// checkGiven is of a text that gives just want: with one fewer and with one more it is of another length.
func checkGiven(t *testing.T, s, want string) {
	t.Helper()
	n := len(want)
	checkExpand(t, s, n, want, impl.OK)
	for _, other := range []int{0, 1, n - 2, n - 1, n + 1, n + 2, mostRaw} {
		if other >= 0 && other <= mostRaw && other != n {
			checkExpand(t, s, other, "", impl.ErrSize)
		}
	}
	for _, wrong := range noSizes() {
		checkExpand(t, s, wrong, "", impl.ErrRange)
	}
}

func TestExpandOfWhatWasCompressed(t *testing.T) {
	for _, row := range append(loneMarkRows(), neighbourRows()...) {
		checkGiven(t, row.packed, row.raw)
	}
	for _, row := range otherRuns() {
		checkGiven(t, row.want("a"), times(row.n, "a"))
	}
	for _, row := range markRuns() {
		checkGiven(t, row.want(mark), times(row.n, mark))
	}
}

// expandRows are of texts that Compress would not have written so as well.
func expandRows() []textRow {
	return []textRow{
		{"", ""},
		{"a", "a"},
		{"aaaaaaa", "aaaaaaa"},
		{mark, mark},
		{"a" + mark, "a" + mark},
		{mark + "a", mark + "a"},
		{mark + "\x00", mark + "\x00"},
		{mark + "a" + mark, mark + "a" + mark},
		{mark + "a" + mark + "b", mark + "a" + mark + "b"},
		{"", pack(0, "a")},
		{"", pack(0, mark)},
		{"", pack(0, "a") + pack(0, mark) + pack(0, "\x00")},
		{"b", pack(0, "a") + "b"},
		{"b", "b" + pack(0, "a")},
		{"bc", "b" + pack(0, "a") + "c"},
		{mark, pack(0, "a") + mark},
		{mark, pack(0, mark) + mark},
		{"a", pack(1, "a")},
		{mark, pack(1, mark)},
		{mark + "a", pack(1, mark) + "a"},
		{mark + mark, pack(1, mark) + mark},
		{mark + mark + "a", pack(1, mark) + mark + "a"},
		{mark + mark, pack(1, mark) + pack(1, mark)},
		{"aaaa", pack(4, "a")},
		{"aaaab", pack(4, "a") + "b"},
		{"aaaaa", pack(2, "a") + pack(3, "a")},
		{"aabbb", pack(2, "a") + pack(3, "b")},
		{mark + mark + mark, pack(3, mark)},
		{times(237, "a"), pack(237, "a")},
		{times(237, mark), pack(237, mark)},
		{times(237, mark) + mark, pack(237, mark) + mark},
		{times(237, mark) + mark + "a", pack(237, mark) + mark + "a"},
		{times(254, "\x00"), pack(254, "\x00")},
		{times(255, "\xff"), pack(255, "\xff")},
		{times(255, mark), pack(255, mark)},
		{times(255, mark) + "a", pack(255, mark) + "a"},
		{times(510, "a"), pack(255, "a") + pack(255, "a")},
		{times(mostRaw, "a"), times(16, pack(255, "a")) + pack(16, "a")},
	}
}

func TestExpandByTheRow(t *testing.T) {
	for _, row := range expandRows() {
		checkGiven(t, row.packed, row.raw)
		if given, cut := givenBy(row.packed); given != row.raw || cut {
			t.Errorf("of %x the chapter asks for %x, cut off: %t", row.packed, given, cut)
		}
	}
}

func TestExpandOfEachRun(t *testing.T) {
	for n := range 256 {
		for _, b := range []string{"a", mark, "\x00", "\xff"} {
			checkGiven(t, pack(n, b), times(n, b))
			checkGiven(t, "x"+pack(n, b)+"y", "x"+times(n, b)+"y")
			checkGiven(t, pack(n, b)+mark, times(n, b)+mark)
		}
	}
	for v := range 256 {
		b := string([]byte{byte(v)})
		checkGiven(t, b, b)
		checkGiven(t, pack(3, b), b+b+b)
		checkGiven(t, pack(v, b)+b, times(v+1, b))
		if b != mark {
			checkGiven(t, mark+b, mark+b)
			checkGiven(t, b+mark, b+mark)
		}
	}
}

// Three marks begin a run of 237: nothing of a lone one is taken out of them.
func TestExpandReadsMarksFromTheLeft(t *testing.T) {
	checkExpand(t, mark+mark+mark, 3, "", impl.ErrEnd)
	checkGiven(t, mark+mark+mark+mark, times(237, mark))
	checkGiven(t, mark+mark+mark+mark+mark, times(238, mark))
	checkExpand(t, times(6, mark), 237, "", impl.ErrEnd)
	checkExpand(t, times(7, mark), 237, "", impl.ErrEnd)
	checkGiven(t, times(8, mark), times(474, mark))
	checkGiven(t, mark+"a"+pack(2, "b"), mark+"abb")
}

// A run is cut off ahead of giving anything, however often its byte were to stand.
func TestExpandOfRunsThatAreCutOff(t *testing.T) {
	for _, cut := range []string{mark + mark, mark + mark + "\x00", mark + mark + "\x01", mark + mark + "\x05", mark + mark + "\xff", mark + mark + mark} {
		for _, ahead := range []string{"", "a", "abc", mark + "a", pack(0, "a"), pack(1, "a"), pack(5, "a"), pack(255, mark)} {
			given, _ := givenBy(ahead)
			s, gives := ahead+cut, len(given)
			for _, n := range []int{gives, gives + 1, gives + 2, gives + 5, gives + 255, mostRaw} {
				checkExpand(t, s, n, "", impl.ErrEnd)
			}
			for n := range gives {
				checkExpand(t, s, n, "", impl.ErrSize)
			}
			for _, n := range noSizes() {
				checkExpand(t, s, n, "", impl.ErrRange)
			}
		}
	}
}

func TestExpandTellsWhatComesFirst(t *testing.T) {
	cut := mark + mark + "\x05"
	checkExpand(t, "abc"+cut, 2, "", impl.ErrSize)
	checkExpand(t, "abc"+cut, 3, "", impl.ErrEnd)
	checkExpand(t, "abc"+cut, 4, "", impl.ErrEnd)
	checkExpand(t, "abc"+cut, 8, "", impl.ErrEnd)
	checkExpand(t, pack(5, "a")+cut, 4, "", impl.ErrSize)
	checkExpand(t, pack(5, "a")+cut, 5, "", impl.ErrEnd)
	checkExpand(t, pack(5, "a")+cut, 6, "", impl.ErrEnd)
	checkExpand(t, "a"+pack(0, "b")+cut, 0, "", impl.ErrSize)
	checkExpand(t, pack(0, "b")+cut, 0, "", impl.ErrEnd)
	checkExpand(t, cut, 0, "", impl.ErrEnd)
	checkExpand(t, cut, 4, "", impl.ErrEnd)
	checkExpand(t, cut+"a"+cut, 4, "", impl.ErrSize)
	checkExpand(t, cut+"a"+cut, 5, "", impl.ErrEnd)
	checkExpand(t, cut, -1, "", impl.ErrRange)
	checkExpand(t, "abc"+cut, mostRaw+1, "", impl.ErrRange)
}

func TestExpandOfTheEmptyText(t *testing.T) {
	checkExpand(t, "", 0, "", impl.OK)
	for n := 1; n <= mostRaw; n++ {
		checkExpand(t, "", n, "", impl.ErrSize)
	}
	for _, n := range noSizes() {
		checkExpand(t, "", n, "", impl.ErrRange)
	}
	for _, n := range anyNumbers() {
		checkExpandAsWritten(t, "", n)
		checkExpandAsWritten(t, pack(0, "a"), n)
	}
}

func TestExpandOfLongTexts(t *testing.T) {
	for _, n := range []int{mostRaw - 1, mostRaw} {
		checkGiven(t, longText(n), longText(n))
		checkExpand(t, longText(n)+"a", n, "", impl.ErrSize)
		checkExpand(t, longText(n)+mark+mark, n, "", impl.ErrEnd)
	}
	// Runs of 0 give nothing, and so a text of any length may be right.
	nothing := times(impl.MaxText/4, pack(0, "a"))
	for n := range 3 {
		body := nothing[:impl.MaxText-4] + times(n, "b")
		checkGiven(t, body, times(n, "b"))
	}
	checkGiven(t, nothing, "")
	checkExpand(t, nothing[:impl.MaxText-1], 0, "", impl.ErrEnd)
	checkExpand(t, nothing[:impl.MaxText-4]+"bb"+mark+mark, 2, "", impl.ErrEnd)
	checkExpand(t, nothing[:impl.MaxText-4]+"bb"+mark+mark, 1, "", impl.ErrSize)
	checkExpand(t, nothing[:impl.MaxText-4]+pack(255, "b"), 255, times(255, "b"), impl.OK)
	checkExpand(t, times(impl.MaxText, "a"), mostRaw, "", impl.ErrSize)
	checkExpand(t, times(impl.MaxText, mark), mostRaw, "", impl.ErrSize)
	checkExpand(t, times(impl.MaxText/4, pack(255, "a")), mostRaw, "", impl.ErrSize)
}

// ErrLong comes ahead of all others.
func TestExpandOfTextsThatAreTooLong(t *testing.T) {
	for _, n := range []int{impl.MaxText + 1, impl.MaxText + 2, impl.MaxText + 4, 2 * impl.MaxText} {
		for _, s := range []string{times(n, "a"), times(n, mark), times(n/4+1, pack(0, "a")), longText(n)} {
			for _, size := range append(noSizes(), 0, 1, mostRaw) {
				checkExpand(t, s, size, "", impl.ErrLong)
			}
		}
	}
}

func TestExpandAsTheChapterSays(t *testing.T) {
	textsOf(mark+"\x00\x02a", 7, func(s string) {
		for n := -1; n <= len(s)+2; n++ {
			checkExpandAsWritten(t, s, n)
		}
	})
	textsOf(mark+"\x01", 12, func(s string) {
		given, _ := givenBy(s)
		for _, n := range []int{0, 1, len(given) - 1, len(given), len(given) + 1, len(given) + 237} {
			checkExpandAsWritten(t, s, n)
		}
	})
	l := lot(1212)
	for range 2000 {
		var b []byte
		for range l.below(40) {
			b = append(b, []byte{237, 237, 0, 1, 3, 'a', byte(l.below(256))}[l.below(7)])
		}
		s := string(b)
		given, _ := givenBy(s)
		for _, n := range []int{-1, 0, l.below(len(given) + 2), len(given) - 1, len(given), len(given) + 1, mostRaw, mostRaw + 1} {
			checkExpandAsWritten(t, s, n)
		}
	}
}

// Of what was compressed no beginning is expanded to as many bytes: it is cut off, or gives fewer.
func TestExpandOfWhatWasCompressedAndCutOff(t *testing.T) {
	l := lot(1213)
	for range 200 {
		s := l.someRuns(600)
		packed := compressWritten(s)
		for i := range len(packed) {
			got, code := impl.Expand(packed[:i], len(s))
			if got != "" || !slices.Contains([]int{impl.ErrEnd, impl.ErrSize}, code) {
				t.Errorf("of %x only %d bytes give %x %d", packed, i, got, code)
			}
			checkExpandAsWritten(t, packed[:i], len(s))
		}
	}
}
