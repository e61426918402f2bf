package tests

import (
	"math"
	"strings"
	"testing"

	"loop.example/g00644/impl"
)

const (
	mark = "\xed"

	// As many bytes as are compressed at the most.
	mostRaw = 4096
)

// times is shorter to read where runs stand one behind the other.
func times(n int, s string) string { return strings.Repeat(s, n) }

// pack is a run as it is written.
func pack(n int, value string) string {
	return mark + mark + string([]byte{byte(n)}) + value
}

// alikeWritten counts all that are alike, and cuts off then.
func alikeWritten(s string, i int) int {
	n := 0
	for _, b := range []byte(s[i:]) {
		if b != s[i] {
			break
		}
		n++
	}
	return min(n, 255)
}

// compressWritten is the chapter's sentence told once more, a byte at a time where there is no run.
func compressWritten(s string) string {
	var out []byte
	for i := 0; i < len(s); {
		n := alikeWritten(s, i)
		if n >= 5 || s[i] == 237 && n >= 2 {
			out = append(out, 237, 237, byte(n), s[i])
			i += n
			continue
		}
		out = append(out, s[i])
		i++
		if s[i-1] == 237 && i < len(s) {
			out = append(out, s[i])
			i++
		}
	}
	return string(out)
}

// textsOf calls with all texts of at most so many of the letters, the empty one ahead.
func textsOf(letters string, most int, with func(s string)) {
	level := []string{""}
	for n := 0; ; n++ {
		for _, s := range level {
			with(s)
		}
		if n == most {
			return
		}
		var longer []string
		for _, s := range level {
			for i := range len(letters) {
				longer = append(longer, s+letters[i:i+1])
			}
		}
		level = longer
	}
}

// runLengths are about all the limits that the chapter names, and the mark as a length.
func runLengths() []int {
	return []int{1, 2, 3, 4, 5, 6, 7, 236, 237, 238, 253, 254, 255, 256, 257, 258, 259, 260, 261, 509, 510, 511, 512, 514, 515, 765, 766}
}

// someRuns is of at most so many bytes: runs of any length, often of marks, often short.
func (l *lot) someRuns(most int) string {
	values := []string{mark, mark, "a", "b", "\x00", "\xff", "\xec", "\xee"}
	var out strings.Builder
	for {
		n := 1 + l.below(3)
		if l.below(3) == 0 {
			lengths := runLengths()
			n = lengths[l.below(len(lengths))]
		}
		if out.Len()+n > most {
			return out.String()
		}
		out.WriteString(times(n, values[l.below(len(values))]))
	}
}

func checkRunAt(t *testing.T, s string, i, want, wantCode int) {
	t.Helper()
	if n, code := impl.RunAt(s, i); n != want || code != wantCode {
		t.Error("of", len(s), "bytes", short(s), "RunAt", i, "is", n, code, "not", want, wantCode)
	}
}

// noPlaces are below 0, at the end of s and behind it, and the ends of int.
func noPlaces(s string) []int {
	n := len(s)
	return []int{math.MinInt, math.MinInt + 1, -1 << 32, -256, -255, -n - 1, -2, -1, n, n + 1, n + 255, n + 256, 1 << 32, math.MaxInt - 255, math.MaxInt - 254, math.MaxInt - 1, math.MaxInt}
}

func checkNoPlaces(t *testing.T, s string) {
	t.Helper()
	for _, i := range noPlaces(s) {
		checkRunAt(t, s, i, 0, impl.ErrRange)
	}
}

func TestRunAtOfAFewBytes(t *testing.T) {
	for _, i := range []int{-1, 0, 1} {
		checkRunAt(t, "", i, 0, impl.ErrRange)
	}
	checkNoPlaces(t, "")
	for b := range 256 {
		one := string([]byte{byte(b)})
		checkRunAt(t, one, 0, 1, impl.OK)
		checkNoPlaces(t, one)
		checkRunAt(t, one+one, 0, 2, impl.OK)
		checkRunAt(t, one+one, 1, 1, impl.OK)
		other := string([]byte{byte(b) ^ 128})
		checkRunAt(t, one+other+one, 0, 1, impl.OK)
		checkRunAt(t, one+other+one, 1, 1, impl.OK)
		checkRunAt(t, one+other+one, 2, 1, impl.OK)
	}
}

// Each place of a run that stands alone, behind another byte, ahead of another byte, and ahead of another byte with more like it behind that.
func TestRunAtOfRuns(t *testing.T) {
	for _, n := range []int{1, 2, 3, 5, 253, 254, 255, 256, 257, 510, 511, 512} {
		for _, b := range []string{"a", mark, "\x00", "\xff"} {
			for _, ahead := range []string{"", "b", b + "b", "bbb"} {
				for _, behind := range []string{"", "b", "b" + b, "bb" + times(300, b)} {
					s := ahead + times(n, b) + behind
					for k := range n {
						checkRunAt(t, s, len(ahead)+k, min(n-k, 255), impl.OK)
					}
					checkNoPlaces(t, s)
				}
			}
		}
	}
}

func TestRunAtOfMixedTexts(t *testing.T) {
	l := lot(1210)
	for range 30 {
		s := l.someRuns(2000)
		for i := range len(s) {
			checkRunAt(t, s, i, alikeWritten(s, i), impl.OK)
		}
	}
	textsOf(mark+"a", 9, func(s string) {
		for i := range len(s) {
			checkRunAt(t, s, i, alikeWritten(s, i), impl.OK)
		}
		checkNoPlaces(t, s)
	})
}

func TestRunAtOfLongTexts(t *testing.T) {
	for _, n := range []int{mostRaw, mostRaw + 1, impl.MaxText - 1, impl.MaxText} {
		alike := times(n, "z")
		for _, i := range []int{0, 1, n / 2, n - 256, n - 255} {
			checkRunAt(t, alike, i, 255, impl.OK)
		}
		for k := 1; k <= 255; k++ {
			checkRunAt(t, alike, n-k, k, impl.OK)
		}
		checkNoPlaces(t, alike)
		checkRunAt(t, longText(n), 0, 1, impl.OK)
		checkRunAt(t, longText(n), n-1, 1, impl.OK)
		checkNoPlaces(t, longText(n))
	}
	for _, n := range []int{impl.MaxText + 1, impl.MaxText + 2, 2 * impl.MaxText} {
		for _, s := range []string{times(n, "z"), longText(n)} {
			for _, i := range append(noPlaces(s), 0, 1, n/2, n-1) {
				checkRunAt(t, s, i, 0, impl.ErrLong)
			}
		}
	}
}

func checkCompress(t *testing.T, s, want string) {
	t.Helper()
	if got, code := impl.Compress(s); got != want || code != impl.OK {
		t.Errorf("Compress of %d bytes %.60x is %.60x %d, not %.60x", len(s), s, got, code, want)
	}
}

func checkNotCompressed(t *testing.T, s string, want int) {
	t.Helper()
	if got, code := impl.Compress(s); got != "" || code != want {
		t.Errorf("Compress of %d bytes is %.60x %d, not %d", len(s), got, code, want)
	}
}

type runRowOf struct {
	n    int
	want func(b string) string
}

// otherRuns are of a byte that is not the mark, markRuns of the mark.
func otherRuns() []runRowOf {
	as := func(n int) func(b string) string { return func(b string) string { return times(n, b) } }
	one := func(n int) func(b string) string { return func(b string) string { return pack(n, b) } }
	list := []runRowOf{
		{256, func(b string) string { return pack(255, b) + b }},
		{257, func(b string) string { return pack(255, b) + b + b }},
		{258, func(b string) string { return pack(255, b) + b + b + b }},
		{259, func(b string) string { return pack(255, b) + b + b + b + b }},
		{260, func(b string) string { return pack(255, b) + pack(5, b) }},
		{261, func(b string) string { return pack(255, b) + pack(6, b) }},
		{509, func(b string) string { return pack(255, b) + pack(254, b) }},
		{510, func(b string) string { return pack(255, b) + pack(255, b) }},
		{511, func(b string) string { return pack(255, b) + pack(255, b) + b }},
		{514, func(b string) string { return pack(255, b) + pack(255, b) + b + b + b + b }},
		{515, func(b string) string { return pack(255, b) + pack(255, b) + pack(5, b) }},
	}
	for n := 1; n <= 4; n++ {
		list = append(list, runRowOf{n, as(n)})
	}
	for n := 5; n <= 255; n++ {
		list = append(list, runRowOf{n, one(n)})
	}
	return list
}

func markRuns() []runRowOf {
	list := []runRowOf{
		{1, func(string) string { return mark }},
		{256, func(string) string { return pack(255, mark) + mark }},
		{257, func(string) string { return pack(255, mark) + pack(2, mark) }},
		{258, func(string) string { return pack(255, mark) + pack(3, mark) }},
		{260, func(string) string { return pack(255, mark) + pack(5, mark) }},
		{510, func(string) string { return pack(255, mark) + pack(255, mark) }},
		{511, func(string) string { return pack(255, mark) + pack(255, mark) + mark }},
		{512, func(string) string { return pack(255, mark) + pack(255, mark) + pack(2, mark) }},
	}
	for n := 2; n <= 255; n++ {
		list = append(list, runRowOf{n, func(string) string { return pack(n, mark) }})
	}
	return list
}

// At the beginning, in the middle and at the end of a text, and alone.
func checkRunRows(t *testing.T, rows []runRowOf, b string) {
	t.Helper()
	for _, row := range rows {
		for _, ahead := range []string{"", "x", "xyz", "xxxx"} {
			for _, behind := range []string{"", "x", "xyz", "xxxx"} {
				checkCompress(t, ahead+times(row.n, b)+behind, ahead+row.want(b)+behind)
			}
		}
	}
}

func TestCompressOfRuns(t *testing.T) {
	for _, b := range []string{"a", "\x00", "\xff", "\xec", "\xee"} {
		checkRunRows(t, otherRuns(), b)
	}
	checkRunRows(t, markRuns(), mark)
}

func TestCompressOfEachByte(t *testing.T) {
	for v := range 256 {
		b := string([]byte{byte(v)})
		checkCompress(t, b, b)
		checkCompress(t, times(5, b), pack(5, b))
		checkCompress(t, times(255, b), pack(255, b))
		if b == mark {
			continue
		}
		checkCompress(t, times(2, b), times(2, b))
		checkCompress(t, times(4, b), times(4, b))
		checkCompress(t, mark+b, mark+b)
		checkCompress(t, mark+times(6, b), mark+b+pack(5, b))
	}
}

type textRow struct{ raw, packed string }

// loneMarkRows are of a mark that stands alone: what is behind it stands as it is, and is looked at from the byte behind that on.
func loneMarkRows() []textRow {
	return []textRow{
		{"", ""},
		{mark, mark},
		{"x" + mark, "x" + mark},
		{mark + "x", mark + "x"},
		{mark + "\x00", mark + "\x00"},
		{mark + "\xff", mark + "\xff"},
		{mark + "xy", mark + "xy"},
		{mark + "aaaa", mark + "aaaa"},
		{mark + "aaaab", mark + "aaaab"},
		{mark + "aaaaa", mark + "aaaaa"},
		{mark + "aaaaab", mark + "aaaaab"},
		{mark + "aaaaaa", mark + "a" + pack(5, "a")},
		{mark + "aaaaaab", mark + "a" + pack(5, "a") + "b"},
		{mark + "aaaaaaa", mark + "a" + pack(6, "a")},
		{mark + "baaaaa", mark + "b" + pack(5, "a")},
		{mark + "baaaa", mark + "baaaa"},
		{mark + times(255, "a"), mark + "a" + pack(254, "a")},
		{mark + times(256, "a"), mark + "a" + pack(255, "a")},
		{mark + times(257, "a"), mark + "a" + pack(255, "a") + "a"},
		{mark + times(261, "a"), mark + "a" + pack(255, "a") + pack(5, "a")},
		{mark + "a" + mark, mark + "a" + mark},
		{mark + "a" + mark + "b", mark + "a" + mark + "b"},
		{mark + "a" + mark + mark, mark + "a" + pack(2, mark)},
		{mark + "a" + mark + mark + "b", mark + "a" + pack(2, mark) + "b"},
		{mark + "a" + mark + "bbbbb", mark + "a" + mark + "bbbbb"},
		{mark + "a" + mark + "bbbbbb", mark + "a" + mark + "b" + pack(5, "b")},
		{mark + "a" + mark + "aaaaaa", mark + "a" + mark + "a" + pack(5, "a")},
		{mark + "aa" + mark + "aa" + mark, mark + "aa" + mark + "aa" + mark},
		{"aaaaa" + mark, pack(5, "a") + mark},
		{"aaaaa" + mark + "aaaaa", pack(5, "a") + mark + "aaaaa"},
		{"aaaaa" + mark + "aaaaaa", pack(5, "a") + mark + "a" + pack(5, "a")},
		{times(200, mark+"a"), times(200, mark+"a")},
	}
}

// neighbourRows are of runs that come one behind the other.
func neighbourRows() []textRow {
	return []textRow{
		{"aaaaabbbbb", pack(5, "a") + pack(5, "b")},
		{"aaaaabbbbbaaaaa", pack(5, "a") + pack(5, "b") + pack(5, "a")},
		{"aaaabbbbb", "aaaa" + pack(5, "b")},
		{"aaaaabbbb", pack(5, "a") + "bbbb"},
		{"aaaabbbbaaaa", "aaaabbbbaaaa"},
		{mark + mark + "aaaaa", pack(2, mark) + pack(5, "a")},
		{mark + mark + "aaaa", pack(2, mark) + "aaaa"},
		{mark + mark + "a", pack(2, mark) + "a"},
		{mark + mark + "a" + mark + mark, pack(2, mark) + "a" + pack(2, mark)},
		{mark + mark + mark + "aaaaa" + mark + mark, pack(3, mark) + pack(5, "a") + pack(2, mark)},
		{"aaaaa" + mark + mark, pack(5, "a") + pack(2, mark)},
		{"aaaa" + mark + mark + "bbbb", "aaaa" + pack(2, mark) + "bbbb"},
		{times(255, mark) + "aaaaa", pack(255, mark) + pack(5, "a")},
		{times(256, mark) + "aaaaa", pack(255, mark) + mark + "aaaaa"},
		{times(256, mark) + "aaaaaa", pack(255, mark) + mark + "a" + pack(5, "a")},
		{times(257, mark) + "aaaaa", pack(255, mark) + pack(2, mark) + pack(5, "a")},
		{times(256, "a") + mark + mark, pack(255, "a") + "a" + pack(2, mark)},
		{times(255, "\xff") + times(255, "\x00"), pack(255, "\xff") + pack(255, "\x00")},
		{times(237, "a") + times(237, mark), pack(237, "a") + pack(237, mark)},
	}
}

func TestCompressByTheRow(t *testing.T) {
	for _, row := range append(loneMarkRows(), neighbourRows()...) {
		checkCompress(t, row.raw, row.packed)
		if row.packed != compressWritten(row.raw) {
			t.Errorf("of %x the chapter asks for %x", row.raw, compressWritten(row.raw))
		}
	}
}

func TestCompressAsTheChapterSays(t *testing.T) {
	textsOf(mark+"ab", 8, func(s string) { checkCompress(t, s, compressWritten(s)) })
	textsOf(mark+"a", 12, func(s string) { checkCompress(t, s, compressWritten(s)) })
	l := lot(1211)
	for range 1000 {
		s := l.someRuns(1 + l.below(mostRaw))
		checkCompress(t, s, compressWritten(s))
	}
}

func TestCompressOfLongTexts(t *testing.T) {
	for _, n := range []int{mostRaw - 1, mostRaw} {
		s := longText(n)
		checkCompress(t, s, s)
		checkCompress(t, times(n, "a"), times(16, pack(255, "a"))+pack(n-16*255, "a"))
		checkCompress(t, times(n, mark), times(16, pack(255, mark))+pack(n-16*255, mark))
		checkCompress(t, times(n, "\x00"), times(16, pack(255, "\x00"))+pack(n-16*255, "\x00"))
	}
	// No text becomes longer than this one.
	checkCompress(t, times(1365, mark+mark+"a")+mark, times(1365, pack(2, mark)+"a")+mark)
	checkCompress(t, times(2048, mark+"a"), times(2048, mark+"a"))
}

// ErrLong comes ahead of ErrSize, though both hold.
func TestCompressOfTextsThatAreTooLong(t *testing.T) {
	for _, b := range []string{"a", mark, "\x00"} {
		for _, n := range []int{mostRaw + 1, mostRaw + 2, 2 * mostRaw, impl.MaxText - 1, impl.MaxText} {
			checkNotCompressed(t, times(n, b), impl.ErrSize)
			checkNotCompressed(t, longText(n), impl.ErrSize)
		}
		for _, n := range []int{impl.MaxText + 1, impl.MaxText + 2, 3 * impl.MaxText} {
			checkNotCompressed(t, times(n, b), impl.ErrLong)
			checkNotCompressed(t, longText(n), impl.ErrLong)
		}
	}
}
