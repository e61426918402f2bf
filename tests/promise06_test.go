package tests

import (
	"testing"

	"loop.example/g00644/impl"
)

// What is encoded is decoded to what it was, whatever stands behind it.
func TestPromise6Bytes(t *testing.T) {
	for _, r := range rightInstrs() {
		bytes, code := impl.Encode(r.x)
		if code != impl.OK || len(bytes) != r.x.Len {
			t.Fatal("Encode of", r.x, "is", bytes, code)
		}
		for behind := range 256 {
			pair := append(append([]int(nil), bytes...), behind)[:2]
			if x, code := impl.Decode(pair); x != r.x || code != impl.OK {
				t.Fatal("Encode of", r.x, "is", bytes, "and Decode of", pair, "is", x, code)
			}
		}
	}
}

func TestPromise6Texts(t *testing.T) {
	for _, r := range rightInstrs() {
		text, code := impl.InstrText(r.x)
		if code != impl.OK {
			t.Fatal("InstrText of", r.x, "is", code)
		}
		if x, code := impl.ReadInstr(text); x != r.x || code != impl.OK {
			t.Error("InstrText of", r.x, "is", text, "and ReadInstr of it", x, code)
		}
	}
}

// What two bytes are decoded to has a text and bytes of its own, and they tell the same; only bits of no use are lost.
func TestPromise6FromBytesToTexts(t *testing.T) {
	for first := range 256 {
		for second := range 256 {
			x, _ := impl.Decode([]int{first, second})
			text, code := impl.InstrText(x)
			y, codeOfRead := impl.ReadInstr(text)
			bytes, codeOfBytes := impl.Encode(y)
			if code != impl.OK || codeOfRead != impl.OK || codeOfBytes != impl.OK || y != x {
				t.Fatal("of", first, second, "come", x, text, y, code, codeOfRead, codeOfBytes)
			}
			if bytes[0] & ^7 != first & ^7 || len(bytes) == 2 && bytes[1]&7 != second&7 {
				t.Error("of", first, second, "is encoded", bytes)
			}
		}
	}
}

// No two instructions have one text, or the same bytes.
func TestPromise6NoTwoAlike(t *testing.T) {
	texts, codes := map[string]impl.Instr{}, map[[2]int]impl.Instr{}
	for _, r := range rightInstrs() {
		text, _ := impl.InstrText(r.x)
		bytes, _ := impl.Encode(r.x)
		pair := [2]int(append(bytes, -1)[:2])
		if x, there := texts[text]; there {
			t.Error(text, "is the text of", x, "and of", r.x)
		}
		if x, there := codes[pair]; there {
			t.Error(pair, "are the bytes of", x, "and of", r.x)
		}
		texts[text], codes[pair] = r.x, r.x
	}
}
