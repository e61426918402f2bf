package tests

import (
	"slices"
	"testing"

	"loop.example/g00644/impl"
)

// What is encoded is decoded to what it was, whatever stands behind it.
func TestPromise6Bytes(t *testing.T) {
	for _, r := range rightInstrs() {
		bytes, code := impl.Encode(r.x)
		if code != impl.OK || len(bytes) != r.x.Len {
			t.Fatal("Encode of", r.x, "is", bytes, code)
		}
		for behind := range 256 {
			pair := append(append([]int(nil), bytes...), behind)[:2]
			if x, code := impl.Decode(pair); x != r.x || code != impl.OK {
				t.Fatal("Encode of", r.x, "is", bytes, "and Decode of", pair, "is", x, code)
			}
		}
	}
}

func TestPromise6Texts(t *testing.T) {
	for _, r := range rightInstrs() {
		text, code := impl.InstrText(r.x)
		if code != impl.OK {
			t.Fatal("InstrText of", r.x, "is", code)
		}
		if x, code := impl.ReadInstr(text); x != r.x || code != impl.OK {
			t.Error("InstrText of", r.x, "is", text, "and ReadInstr of it", x, code)
		}
	}
}

// What two bytes are decoded to has a text and bytes of its own, and they tell the same; only bits of no use are lost.
func TestPromise6FromBytesToTexts(t *testing.T) {
	for first := range 256 {
		for second := range 256 {
			x, _ := impl.Decode([]int{first, second})
			text, code := impl.InstrText(x)
			y, codeOfRead := impl.ReadInstr(text)
			bytes, codeOfBytes := impl.Encode(y)
			if code != impl.OK || codeOfRead != impl.OK || codeOfBytes != impl.OK || y != x {
				t.Fatal("of", first, second, "come", x, text, y, code, codeOfRead, codeOfBytes)
			}
			if bytes[0] & ^7 != first & ^7 || len(bytes) == 2 && bytes[1]&7 != second&7 {
				t.Error("of", first, second, "is encoded", bytes)
			}
		}
	}
}

// No two instructions have one text, or the same bytes.
func TestPromise6NoTwoAlike(t *testing.T) {
	texts, codes := map[string]impl.Instr{}, map[[2]int]impl.Instr{}
	for _, r := range rightInstrs() {
		text, _ := impl.InstrText(r.x)
		bytes, _ := impl.Encode(r.x)
		pair := [2]int(append(bytes, -1)[:2])
		if x, there := texts[text]; there {
			t.Error(text, "is the text of", x, "and of", r.x)
		}
		if x, there := codes[pair]; there {
			t.Error(pair, "are the bytes of", x, "and of", r.x)
		}
		texts[text], codes[pair] = r.x, r.x
	}
}

// checkListBack reads a list of code back, line by line: each stands behind the one ahead of it, and all together have the list again.
func checkListBack(t *testing.T, bytes []int) {
	t.Helper()
	lines, code := impl.ListCode(bytes)
	if code != impl.OK {
		t.Fatal("ListCode of", short(bytes), "is", code)
	}
	var back []int
	for _, line := range lines {
		place, text := line[:2], line[3:]
		x, code := impl.ReadInstr(text)
		if code != impl.OK || place != impl.HexOf(string([]byte{byte(len(back))})) || line[2] != ' ' {
			t.Fatalf("of %s a line is %q, and ReadInstr %v %d", short(bytes), line, x, code)
		}
		if told, _ := impl.InstrText(x); told != text {
			t.Fatalf("%q is read as %v, and its text %q", text, x, told)
		}
		own, _ := impl.Encode(x)
		back = append(back, own...)
	}
	if beyond := len(back) - len(bytes); beyond != 0 && (beyond != 1 || back[len(bytes)] != 0) {
		t.Fatal("of", len(bytes), "bytes are read back", len(back))
	}
	if len(back) > 256 {
		back = back[:256]
	}
	if again, code := impl.ListCode(back); code != impl.OK || !slices.Equal(again, lines) {
		t.Fatal("ListCode of what was read back is", short(again), code, "not", short(lines))
	}
}

func TestPromise6OfLists(t *testing.T) {
	l := lot(600)
	for first := range 256 {
		checkListBack(t, []int{first})
		for second := range 256 {
			checkListBack(t, []int{first, second})
		}
	}
	for n := range 257 {
		for range 4 {
			checkListBack(t, l.someCode(n))
		}
	}
}

// Right instructions, one behind the other, are listed as their texts, and read back from them as their bytes.
func TestPromise6OfListsOfRightOnes(t *testing.T) {
	l := lot(601)
	all := rightInstrs()
	for range 300 {
		var bytes, back []int
		var texts []string
		for len(bytes) < 255 {
			r := all[l.below(len(all))]
			bytes, texts = append(bytes, r.bytes...), append(texts, r.text)
		}
		lines, code := impl.ListCode(bytes)
		if code != impl.OK || len(lines) != len(texts) {
			t.Fatal("ListCode is", short(lines), code)
		}
		for i, line := range lines {
			if line[3:] != texts[i] {
				t.Fatalf("line %d is %q, not of %q", i, line, texts[i])
			}
			x, _ := impl.ReadInstr(line[3:])
			own, _ := impl.Encode(x)
			back = append(back, own...)
		}
		if !slices.Equal(back, bytes) {
			t.Fatal("of", bytes, "is read back", back)
		}
	}
}

// What two instructions differ in is told.
func TestPromise6OfListsThatDiffer(t *testing.T) {
	lists := map[string]string{}
	for _, r := range rightInstrs() {
		lines, _ := impl.ListCode(r.bytes)
		if len(lines) != 1 || lists[lines[0]] != "" {
			t.Fatal("ListCode of", r.text, "is", lines, "as that of", lists[lines[0]])
		}
		lists[lines[0]] = r.text
	}
}
