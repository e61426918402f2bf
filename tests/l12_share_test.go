package tests

import (
	"testing"

	"loop.example/g00644/impl"
)

// runTexts are right ones, ones with a run that is cut off, and ones that are too long.
func runTexts() []string {
	list := []string{"a", mark, "abc", "aaaa", "aaaaa", mark + "aaaaaa", times(257, mark), mark + mark, mark + mark + "\x05", pack(0, "a"), pack(255, mark), pack(3, "a") + "b" + mark}
	for _, n := range []int{mostRaw - 1, mostRaw, mostRaw + 1, impl.MaxText, impl.MaxText + 1} {
		list = append(list, longText(n), times(n, "a"), times(n, mark))
	}
	for _, row := range append(loneMarkRows()[1:], neighbourRows()...) {
		list = append(list, row.raw, row.packed)
	}
	return list
}

func TestTextsOfRunsStay(t *testing.T) {
	for _, s := range runTexts() {
		given, bytes := unsafeText(s)
		impl.Compress(given)
		all, _ := givenBy(s)
		for _, n := range []int{-1, 0, 1, len(all) - 1, len(all), len(all) + 1, mostRaw, mostRaw + 1} {
			impl.Expand(given, n)
		}
		for _, i := range append(noPlaces(s), 0, 1, len(s)/2, len(s)-1) {
			impl.RunAt(given, i)
		}
		if string(bytes) != s+"behind" {
			t.Fatal("a text that was handed in is changed:", short(s))
		}
	}
}

// What was handed in is written to afterwards, and the answers stay.
func TestAnswersOfRunsOwnTheirMemory(t *testing.T) {
	for _, s := range runTexts() {
		given, bytes := unsafeText(s)
		want, _ := givenBy(s)
		packed, code := impl.Compress(given)
		raw, rawCode := impl.Expand(given, len(want))
		if liesIn(packed, given) || liesIn(raw, given) {
			t.Error("an answer lies in the text that was handed in:", short(s))
		}
		clear(bytes)
		if code == impl.OK && packed != compressWritten(s) {
			t.Error("what Compress answers shares memory with its text", short(s))
		}
		if rawCode == impl.OK && raw != want {
			t.Error("what Expand answers shares memory with its text", short(s))
		}
	}
}
