package tests

import (
	"testing"

	"loop.example/g00644/impl"
)

// checkThereAndBack compresses s and expands it again, to as many bytes as it has, and to no others.
func checkThereAndBack(t *testing.T, s string) {
	t.Helper()
	packed, code := impl.Compress(s)
	if code != impl.OK {
		t.Fatalf("Compress of %d bytes %.60x is %d", len(s), s, code)
	}
	if got, code := impl.Expand(packed, len(s)); got != s || code != impl.OK {
		t.Errorf("%d bytes %.60x are compressed to %.60x, and that is expanded to %.60x %d", len(s), s, packed, got, code)
	}
	for _, n := range []int{len(s) - 1, len(s) + 1} {
		if n < 0 || n > mostRaw {
			continue
		}
		if got, code := impl.Expand(packed, n); got != "" || code != impl.ErrSize {
			t.Errorf("%d bytes %.60x are expanded to %d: %.60x %d", len(s), s, n, got, code)
		}
	}
}

func TestPromise13OfAllShortTexts(t *testing.T) {
	back := func(s string) { checkThereAndBack(t, s) }
	textsOf(mark+"ab", 9, back)
	textsOf(mark+"\x00\xff", 6, back)
	textsOf(mark+"\x02\x05", 6, back)
	textsOf(mark+"a", 14, back)
}

func TestPromise13OfEachByte(t *testing.T) {
	for v := range 256 {
		b := string([]byte{byte(v)})
		for _, n := range runLengths() {
			run := times(n, b)
			for _, s := range []string{run, mark + run, run + mark, mark + run + mark, "x" + run + mark + run, mark + mark + run + mark + mark} {
				checkThereAndBack(t, s)
			}
		}
	}
}

func TestPromise13OfEachLength(t *testing.T) {
	for n := range mostRaw + 1 {
		checkThereAndBack(t, times(n, "a"))
		checkThereAndBack(t, times(n, mark))
		checkThereAndBack(t, longText(n))
		checkThereAndBack(t, times(n/2, mark+"a"))
		checkThereAndBack(t, times(n/3, mark+mark+"a"))
	}
}

// Three runs of all lengths about the limits, each of a mark or of another byte.
func TestPromise13OfRunsBehindRuns(t *testing.T) {
	values := []string{mark, "a", "b"}
	for _, n := range runLengths() {
		for _, m := range runLengths() {
			for _, one := range values {
				for _, two := range values {
					for _, last := range []string{"", mark, mark + mark, mark + "aaaaaa", "aaaaa", "b"} {
						checkThereAndBack(t, times(n, one)+times(m, two)+last)
					}
				}
			}
		}
	}
}

func TestPromise13OfMixedTexts(t *testing.T) {
	l := lot(1300)
	for range 2000 {
		checkThereAndBack(t, l.someRuns(1+l.below(mostRaw)))
	}
	for range 1000 {
		b := make([]byte, l.below(mostRaw+1))
		for i := range b {
			b[i] = byte(l.someByte())
			if l.below(3) == 0 {
				b[i] = 237
			}
		}
		checkThereAndBack(t, string(b))
	}
}
