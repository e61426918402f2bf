package tests

import (
	"math"
	"strings"
	"testing"

	"loop.example/g00644/impl"
)

func TestBounds(t *testing.T) {
	if impl.MaxText != 65536 || impl.MaxList != 4096 || impl.MaxName != 40 {
		t.Error("MaxText, MaxList, MaxName:", impl.MaxText, impl.MaxList, impl.MaxName)
	}
}

type codeRow struct {
	number, code int
	word         string
}

func codeRows() []codeRow {
	return []codeRow{
		{0, impl.OK, "ok"}, {1, impl.ErrBad, "bad"}, {2, impl.ErrLong, "long"}, {3, impl.ErrForm, "form"},
		{4, impl.ErrRange, "range"}, {5, impl.ErrNone, "none"}, {6, impl.ErrMany, "many"}, {7, impl.ErrFull, "full"},
		{8, impl.ErrSize, "size"}, {9, impl.ErrEnd, "end"}, {10, impl.ErrSum, "sum"}, {11, impl.ErrOp, "op"},
		{12, impl.ErrLocked, "locked"}, {13, impl.ErrStopped, "stopped"}, {14, impl.ErrLevel, "level"},
		{15, impl.ErrPilot, "pilot"}, {16, impl.ErrPulse, "pulse"}, {17, impl.ErrBits, "bits"},
		{18, impl.ErrModel, "model"}, {19, impl.ErrHalt, "halt"},
	}
}

func TestCodesAndWords(t *testing.T) {
	for _, r := range codeRows() {
		if r.code != r.number {
			t.Error(r.word, "has the number", r.code)
		}
		if got := impl.CodeWord(r.number); got != r.word {
			t.Errorf("CodeWord(%d): %q, not %q", r.number, got, r.word)
		}
		if got := impl.CodeOf(r.word); got != r.number {
			t.Errorf("CodeOf(%q): %d, not %d", r.word, got, r.number)
		}
	}
}

func TestCodeWordOfOtherNumbers(t *testing.T) {
	for _, n := range []int{math.MinInt, -20, -2, -1, 20, 21, 255, 256, 1 << 32, math.MaxInt} {
		if got := impl.CodeWord(n); got != "" {
			t.Errorf("CodeWord(%d): %q", n, got)
		}
	}
}

func TestCodeOfOtherTexts(t *testing.T) {
	for _, r := range codeRows() {
		for _, s := range []string{strings.ToUpper(r.word), r.word + " ", " " + r.word, r.word + "\x00", r.word + "x", r.word[:len(r.word)-1]} {
			if got := impl.CodeOf(s); got != -1 {
				t.Errorf("CodeOf(%q): %d", s, got)
			}
		}
	}
	for _, s := range []string{"", "0", "error", "é", longText(impl.MaxText), longText(impl.MaxText + 1), strings.Repeat("ok", impl.MaxText)} {
		if got := impl.CodeOf(s); got != -1 {
			t.Errorf("CodeOf(%s): %d", short(s), got)
		}
	}
}

const nameLetters = "abcdefghijklmnopqrstuvwxyzABCDEFGHIJKLMNOPQRSTUVWXYZ_"

func TestNameBytes(t *testing.T) {
	for b := range 256 {
		s := string([]byte{byte(b)})
		letter := strings.Contains(nameLetters, s)
		if impl.NameOK(s) != letter {
			t.Errorf("NameOK(%q)", s)
		}
		later := letter || b >= '0' && b <= '9'
		for _, u := range []string{"a" + s, "_" + s + "9", "Z" + s + "_z"} {
			if impl.NameOK(u) != later {
				t.Errorf("NameOK(%q)", u)
			}
		}
	}
}

func TestNameLengths(t *testing.T) {
	for n := 0; n <= 2*impl.MaxName; n++ {
		want := n >= 1 && n <= impl.MaxName
		if s := strings.Repeat("n", n); impl.NameOK(s) != want {
			t.Error("NameOK of so many bytes:", n)
		}
	}
	for _, n := range []int{impl.MaxText - 1, impl.MaxText, impl.MaxText + 1} {
		if impl.NameOK(strings.Repeat("n", n)) {
			t.Error("NameOK of so many bytes:", n)
		}
	}
	if s := strings.Repeat("n", impl.MaxName-1); impl.NameOK(s+"-") || !impl.NameOK(s+"0") {
		t.Error("NameOK looks at the last byte, too")
	}
}
