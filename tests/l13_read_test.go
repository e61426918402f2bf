package tests

import (
	"strings"
	"testing"

	"loop.example/g00644/impl"
)

func romOf(s impl.Snap) string {
	var out []byte
	for _, v := range s.Memory.Rom {
		out = append(out, byte(v))
	}
	return string(out)
}

// asRead is what is read of a snapshot's text: it does not tell of keys and of Joy.
func asRead(s impl.Snap) impl.Snap {
	s = copySnap(s)
	s.Ports.Keys, s.Ports.Joy = [8]int{31, 31, 31, 31, 31, 31, 31, 31}, 0
	return s
}

// headWritten is what a snapshot's first 15 bytes tell, with noughts in all banks.
func headWritten(s, rom string) (impl.Snap, int) {
	if s[0] != 3 {
		return impl.Snap{}, impl.ErrModel
	}
	if s[7] != 0 || s[12] > 31 || s[12]%4 == 2 || s[13] > 3 || s[14] > 31 {
		return impl.Snap{}, impl.ErrForm
	}
	x := withSwitches(int(s[12]))
	x.Memory.Rom, x.Memory.Page = cellsOf(rom), int(s[13])
	for register := range 8 {
		x.Cpu.Regs[register] = int(s[1+register])
	}
	x.Cpu.F, x.Cpu.Sp, x.Cpu.Pc = int(s[9]), int(s[10]), int(s[11])
	x.Ports.Border, x.Ports.Mic, x.Ports.Beep = int(s[14])%8, int(s[14])/8%2 == 1, int(s[14])/16%2 == 1
	return x, impl.OK
}

// snapReadWritten is the chapter's sentence told once more, by places in the text.
func snapReadWritten(s, rom string) (impl.Snap, int) {
	switch {
	case len(s) > 65536 || len(rom) > 65536:
		return impl.Snap{}, impl.ErrLong
	case len(rom) != 64:
		return impl.Snap{}, impl.ErrSize
	case len(s) < 15:
		return impl.Snap{}, impl.ErrEnd
	}
	x, code := headWritten(s, rom)
	if code != impl.OK {
		return impl.Snap{}, code
	}
	left := s[15:]
	for number := range 4 {
		if len(left) < 2 || len(left) < 2+int(left[0])+256*int(left[1]) {
			return impl.Snap{}, impl.ErrEnd
		}
		behind := 2 + int(left[0]) + 256*int(left[1])
		cells, code := expandWritten(left[2:behind], 64)
		if code != impl.OK {
			return impl.Snap{}, code
		}
		x.Memory.Ram[number], left = cellsOf(cells), left[behind:]
	}
	if left != "" {
		return impl.Snap{}, impl.ErrSize
	}
	return x, impl.OK
}

func checkReadSnap(t *testing.T, s, rom string, want impl.Snap) {
	t.Helper()
	if got, code := impl.ReadSnap(s, rom); code != impl.OK || !sameParts(got, want) || !impl.SnapOK(got) {
		t.Errorf("ReadSnap of %d bytes %.60x is %d %+v %+v %s, not %+v %+v %s", len(s), s, code, got.Cpu, got.Ports, short(got.Memory), want.Cpu, want.Ports, short(want.Memory))
	}
}

func checkNoSnap(t *testing.T, s, rom string, want int) {
	t.Helper()
	if got, code := impl.ReadSnap(s, rom); code != want || !isZeroSnap(got) {
		t.Errorf("ReadSnap of %d bytes %.60x with a ROM of %d is %d %s, not %d", len(s), s, len(rom), code, short(got), want)
	}
}

func checkReadAsWritten(t *testing.T, s, rom string) {
	t.Helper()
	want, code := snapReadWritten(s, rom)
	if code == impl.OK {
		checkReadSnap(t, s, rom, want)
		return
	}
	checkNoSnap(t, s, rom, code)
}

func TestReadSnapOfRightTexts(t *testing.T) {
	for _, s := range rightSnaps() {
		checkReadSnap(t, snapWritten(s), romOf(s), asRead(s))
		text, code := impl.SnapText(s)
		if code != impl.OK {
			t.Error("SnapText is", code)
		}
		checkReadSnap(t, text, romOf(s), asRead(s))
	}
}

func TestReadSnapHasKeysUpAndNoJoy(t *testing.T) {
	s := plainSnap()
	s.Ports.Keys, s.Ports.Joy = [8]int{0, 1, 2, 4, 8, 16, 30, 15}, 31
	text, _ := impl.SnapText(s)
	x, code := impl.ReadSnap(text, romOf(s))
	if code != impl.OK || x.Ports.Keys != [8]int{31, 31, 31, 31, 31, 31, 31, 31} || x.Ports.Joy != 0 || x.Ports.Border != 2 || !x.Ports.Mic || x.Ports.Beep || !impl.SameSnap(s, x) {
		t.Error("ReadSnap has", x.Ports, code)
	}
}

func TestReadSnapByHand(t *testing.T) {
	text := "\x03" + "\x01\x02\x03\x04\x05\x06\x00\x07" + "\x08\x09\x0a" + "\x0f" + "\x03" + "\x1c" + noughts + "\x40\x00" + longText(64) + "\x06\x00ab" + pack(62, mark) + "\x05\x00" + pack(63, "\xff") + mark
	want := withBanks(newSnap(), times(64, "\x00"), longText(64), "ab"+times(62, mark), times(63, "\xff")+mark)
	want.Cpu = impl.Cpu{Regs: [8]int{1, 2, 3, 4, 5, 6, 0, 7}, F: 8, Sp: 9, Pc: 10, Iff: true, Ei: true, Halt: true}
	want.Memory.Rom, want.Memory.Page, want.Memory.Screen, want.Memory.Locked = cellsOf(longText(300)[200:264]), 3, 1, true
	want.Ports.Border, want.Ports.Mic, want.Ports.Beep = 4, true, true
	checkReadSnap(t, text, longText(300)[200:264], want)
}

func TestReadSnapOfRoms(t *testing.T) {
	text := snapWritten(newSnap())
	for _, rom := range []string{longText(64), times(64, "\x00"), times(64, "\xff"), times(64, mark)} {
		want := newSnap()
		want.Memory.Rom = cellsOf(rom)
		checkReadSnap(t, text, rom, want)
	}
	for _, n := range []int{0, 1, 32, 63, 65, 66, 128, 256, impl.MaxText - 1, impl.MaxText} {
		for _, s := range []string{text, "", text[:14], text[:15], text[:20], text + "x", "\x04" + text[1:], text[:13] + "\x04" + text[14:], times(impl.MaxText, "\x03")} {
			checkNoSnap(t, s, longText(n), impl.ErrSize)
			checkNoSnap(t, s, times(n, "\x00"), impl.ErrSize)
		}
	}
	for _, n := range []int{impl.MaxText + 1, impl.MaxText + 64, 2 * impl.MaxText} {
		for _, s := range []string{text, "", text + "x", times(impl.MaxText+1, "\x03")} {
			checkNoSnap(t, s, longText(n), impl.ErrLong)
		}
	}
}

func TestReadSnapOfShortTexts(t *testing.T) {
	rom := longText(64)
	for n := range 15 {
		for _, s := range []string{snapWritten(newSnap()), snapWritten(plainSnap()), times(15, "\x00"), times(15, "\x03"), times(15, "\xff"), "\x04" + times(14, "\xff")} {
			checkNoSnap(t, s[:n], rom, impl.ErrEnd)
		}
	}
	checkNoSnap(t, snapWritten(newSnap())[:15], rom, impl.ErrEnd)
	checkNoSnap(t, times(15, "\x03"), rom, impl.ErrForm)
	checkNoSnap(t, times(15, "\x00"), rom, impl.ErrModel)
	checkNoSnap(t, "\x03"+times(14, "\x00"), rom, impl.ErrEnd)
	checkNoSnap(t, "\x03"+times(14, "\x00")+times(4, noughts)[:23], rom, impl.ErrEnd)
	checkReadSnap(t, "\x03"+times(14, "\x00")+times(4, noughts), times(64, "\x00"), impl.Snap{Memory: newSnap().Memory, Ports: asRead(impl.Snap{}).Ports})
}

func TestReadSnapOfTextsThatAreCutOff(t *testing.T) {
	kinds := bankKinds()
	for i := range kinds {
		s := withBanks(plainSnap(), kinds[i], kinds[(i+1)%len(kinds)], kinds[(i+5)%len(kinds)], kinds[i])
		text := snapWritten(s)
		for n := range len(text) {
			checkNoSnap(t, text[:n], romOf(s), impl.ErrEnd)
		}
	}
}

func TestReadSnapOfTextsWithMoreBehind(t *testing.T) {
	l := lot(1310)
	for _, s := range []impl.Snap{newSnap(), plainSnap(), l.someSnap(), withBanks(newSnap(), bankKinds()[:4]...)} {
		text, rom := snapWritten(s), romOf(s)
		for v := range 256 {
			checkNoSnap(t, text+string([]byte{byte(v)}), rom, impl.ErrSize)
		}
		for _, behind := range []string{"\x00\x00", "xy", mark + mark, noughts, text, longText(1000), times(4000, "\x00"), longText(impl.MaxText - len(text))} {
			checkNoSnap(t, text+behind, rom, impl.ErrSize)
		}
		checkNoSnap(t, text+longText(impl.MaxText-len(text)+1), rom, impl.ErrLong)
	}
}

// Each byte of the head takes each value.
func TestReadSnapOfEachByteOfTheHead(t *testing.T) {
	for _, s := range []impl.Snap{newSnap(), plainSnap(), withSwitches(31), withSwitches(0)} {
		text, rom := snapWritten(s), romOf(s)
		for place := range 15 {
			for v := range 256 {
				checkReadAsWritten(t, text[:place]+string([]byte{byte(v)})+text[place+1:], rom)
			}
		}
	}
}

// headWith is the text of a new one with another byte in its head.
func headWith(place int, v int) string {
	text := snapWritten(newSnap())
	return text[:place] + string([]byte{byte(v)}) + text[place+1:]
}

func TestReadSnapOfOtherVersions(t *testing.T) {
	for v := range 256 {
		if v != 3 {
			checkNoSnap(t, headWith(0, v), longText(64), impl.ErrModel)
		}
	}
}

func TestReadSnapOfTheSwitches(t *testing.T) {
	rom := times(64, "\x00")
	for v := range 256 {
		if v > 31 || v&3 == 2 {
			checkNoSnap(t, headWith(12, v), rom, impl.ErrForm)
			continue
		}
		checkReadSnap(t, headWith(12, v), rom, withSwitches(v))
	}
	for _, v := range []int{32, 64, 128, 33, 65, 129, 63, 95, 159, 224, 255} {
		checkNoSnap(t, headWith(12, v), rom, impl.ErrForm)
	}
}

func TestReadSnapOfPagesAndBorders(t *testing.T) {
	rom := times(64, "\x00")
	for v := range 256 {
		page, border := newSnap(), newSnap()
		page.Memory.Page = v
		if v < 4 {
			checkReadSnap(t, headWith(13, v), rom, page)
		} else {
			checkNoSnap(t, headWith(13, v), rom, impl.ErrForm)
		}
		border.Ports.Border, border.Ports.Mic, border.Ports.Beep = v%8, v/8%2 == 1, v/16%2 == 1
		if v < 32 {
			checkReadSnap(t, headWith(14, v), rom, border)
		} else {
			checkNoSnap(t, headWith(14, v), rom, impl.ErrForm)
		}
	}
}

func TestReadSnapOfProcessors(t *testing.T) {
	rom := times(64, "\x00")
	for v := 1; v < 256; v++ {
		checkNoSnap(t, headWith(7, v), rom, impl.ErrForm)
	}
	for name, place := range placesInText() {
		for v := range 256 {
			want := newSnap()
			*numbersOf(&want.Cpu)[name] = v
			checkReadSnap(t, headWith(place, v), rom, want)
		}
	}
	for _, v := range []int{2, 6, 10, 14, 18, 22, 26, 30} {
		checkNoSnap(t, headWith(12, v), rom, impl.ErrForm)
		checkReadSnap(t, headWith(12, v+1), rom, withSwitches(v+1))
	}
}

// bankText is a new one's text whose bank of a number is another one, with its word ahead, whatever that says.
func bankText(number int, withWord string) string {
	banks := []string{noughts, noughts, noughts, noughts}
	banks[number] = withWord
	return snapWritten(newSnap())[:15] + strings.Join(banks, "")
}

func word(n int) string { return string([]byte{byte(n), byte(n >> 8)}) }

func TestReadSnapOfWordsOfLengths(t *testing.T) {
	rom := longText(64)
	for _, packed := range []string{pack(64, "a"), longText(64), "ab" + pack(62, mark), pack(32, "a") + pack(32, mark), times(21, pack(2, mark)+"a") + "b"} {
		n := len(packed)
		for number := range 4 {
			checkNoSnap(t, bankText(number, word(0)+packed), rom, impl.ErrSize)
			behind := 6 * (3 - number)
			for size := n + behind + 1; size < n+behind+10; size++ {
				checkNoSnap(t, bankText(number, word(size)+packed), rom, impl.ErrEnd)
			}
			for _, size := range []int{n + behind + 1, n + behind + 2, n + behind + 256, 1000, 32767, 32768, 65279, 65280, 65534, 65535} {
				checkNoSnap(t, bankText(number, word(size)+packed), rom, impl.ErrEnd)
			}
			for size := range 256 {
				checkReadAsWritten(t, bankText(number, word(size)+packed), rom)
				checkReadAsWritten(t, bankText(number, word(256*size)+packed), rom)
				checkReadAsWritten(t, bankText(number, word(256*size+n)+packed), rom)
			}
		}
	}
	plain := longText(64)
	for number := range 4 {
		checkNoSnap(t, bankText(number, word(63)+plain), rom, impl.ErrSize)
		checkNoSnap(t, bankText(number, word(0)), rom, impl.ErrSize)
		checkNoSnap(t, bankText(number, word(3)+pack(64, "a")), rom, impl.ErrEnd)
		checkNoSnap(t, bankText(number, word(2)+pack(64, "a")), rom, impl.ErrEnd)
		checkNoSnap(t, bankText(number, word(1)+pack(64, "a")), rom, impl.ErrSize)
	}
	for number := range 3 {
		checkNoSnap(t, bankText(number, word(65)+plain), rom, impl.ErrSize)
		checkNoSnap(t, bankText(number, word(5)+pack(64, "a")), rom, impl.ErrSize)
	}
	checkNoSnap(t, bankText(3, word(65)+plain), rom, impl.ErrEnd)
	checkNoSnap(t, bankText(3, word(5)+pack(64, "a")), rom, impl.ErrEnd)
}

func TestReadSnapOfWhatGivesAnotherBank(t *testing.T) {
	rom := longText(64)
	for number := range 4 {
		for _, row := range []struct {
			packed string
			code   int
		}{
			{"", impl.ErrSize},
			{"a", impl.ErrSize},
			{longText(63), impl.ErrSize},
			{longText(65), impl.ErrSize},
			{longText(300), impl.ErrSize},
			{pack(63, "a"), impl.ErrSize},
			{pack(65, "a"), impl.ErrSize},
			{pack(0, "a"), impl.ErrSize},
			{pack(255, "a"), impl.ErrSize},
			{pack(63, mark), impl.ErrSize},
			{pack(65, mark), impl.ErrSize},
			{pack(64, "a") + "b", impl.ErrSize},
			{pack(64, "a") + mark, impl.ErrSize},
			{pack(32, "a") + pack(31, "a"), impl.ErrSize},
			{pack(32, "a") + pack(33, "a"), impl.ErrSize},
			{mark + mark, impl.ErrEnd},
			{mark + mark + "\x40", impl.ErrEnd},
			{mark + mark + mark, impl.ErrEnd},
			{longText(62) + mark + mark, impl.ErrEnd},
			{longText(64) + mark + mark, impl.ErrEnd},
			{longText(65) + mark + mark, impl.ErrSize},
			{pack(64, "a") + mark + mark + "\x00", impl.ErrEnd},
			{pack(65, "a") + mark + mark + "\x00", impl.ErrSize},
			{pack(32, "a") + mark + mark + "\x20", impl.ErrEnd},
		} {
			checkNoSnap(t, bankText(number, sized(row.packed)), rom, row.code)
		}
	}
}

// What SnapText would have written in another way is read all the same.
func TestReadSnapOfBanksWrittenInAnotherWay(t *testing.T) {
	rom := times(64, "\x00")
	for number := range 4 {
		for _, row := range []textRow{
			{times(64, "a"), times(64, "a")},
			{times(64, "a"), pack(32, "a") + pack(32, "a")},
			{times(64, "a"), times(64, pack(1, "a"))},
			{times(64, "a"), pack(0, "b") + pack(64, "a")},
			{times(64, "a"), pack(64, "a") + times(100, pack(0, mark))},
			{times(64, mark), times(64, pack(1, mark))},
			{times(64, mark), pack(63, mark) + mark},
			{longText(64), times(1000, pack(0, "x")) + longText(64)},
		} {
			want := newSnap()
			want.Memory.Ram[number] = cellsOf(row.raw)
			checkReadSnap(t, bankText(number, sized(row.packed)), rom, want)
		}
	}
}

// stretched is a bank and n bytes that are expanded to it: runs of 0 give nothing, and so there is a text of any length.
func stretched(n int) (raw, packed string) {
	single := longText(n % 4)
	raw = times(64-len(single), "z") + single
	return raw, times(n/4-1, pack(0, "y")) + pack(64-len(single), "z") + single
}

func TestReadSnapOfLongRightTexts(t *testing.T) {
	rom := times(64, "\x00")
	besides := len(bankText(0, word(0)))
	for number := range 4 {
		for _, length := range []int{100, 4096, impl.MaxText - 3, impl.MaxText - 2, impl.MaxText - 1, impl.MaxText} {
			raw, packed := stretched(length - besides)
			text := bankText(number, sized(packed))
			if len(text) != length {
				t.Fatal("the text has", len(text), "bytes, not", length)
			}
			want := newSnap()
			want.Memory.Ram[number] = cellsOf(raw)
			checkReadSnap(t, text, rom, want)
			checkNoSnap(t, text[:length-1], rom, impl.ErrEnd)
			checkNoSnap(t, text+times(impl.MaxText+1-length, "x"), rom, impl.ErrLong)
		}
	}
}

func TestReadSnapOfLongWrongTexts(t *testing.T) {
	rom := longText(64)
	for _, s := range []string{times(impl.MaxText, "\x03"), "\x03" + times(impl.MaxText-1, "\x00"), longText(impl.MaxText), times(impl.MaxText, mark)} {
		checkReadAsWritten(t, s, rom)
		checkReadAsWritten(t, s[1:], rom)
		for _, r := range []string{rom, "", rom[1:], longText(impl.MaxText)} {
			checkNoSnap(t, s+"x", r, impl.ErrLong)
			checkNoSnap(t, s+s, r, impl.ErrLong)
		}
	}
}

// snapPieces are a text of a snapshot, and its ROM, still apart.
type snapPieces struct {
	head   [15]byte
	banks  [4]string
	behind string
	most   int
	rom    string
}

func (p snapPieces) text() string {
	s := string(p.head[:]) + strings.Join(p.banks[:], "") + p.behind
	return s[:min(p.most, len(s))]
}

type snapFault struct {
	name string
	code int
	make func(p *snapPieces)
}

// bankFaults are those of one bank.
func bankFaults(number int) []snapFault {
	var list []snapFault
	for _, row := range []struct {
		name, bank string
		code       int
	}{
		{"a bank behind the end", word(65535) + longText(64), impl.ErrEnd},
		{"a bank cut off", sized(longText(64) + mark + mark), impl.ErrEnd},
		{"a bank of fewer", sized(longText(63)), impl.ErrSize},
		{"a bank of more", sized(pack(65, "a")), impl.ErrSize},
	} {
		list = append(list, snapFault{row.name, row.code, func(p *snapPieces) { p.banks[number] = row.bank }})
	}
	return list
}

// snapFaults stand in the order in which they are looked for; those of one row are looked for together.
func snapFaults() [][]snapFault {
	headFault := func(name string, code, place int, v byte) snapFault {
		return snapFault{name, code, func(p *snapPieces) { p.head[place] = v }}
	}
	rows := [][]snapFault{
		{
			{"a long text", impl.ErrLong, func(p *snapPieces) { p.behind, p.most = longText(impl.MaxText), 2*impl.MaxText }},
			{"a long ROM", impl.ErrLong, func(p *snapPieces) { p.rom = longText(impl.MaxText + 1) }},
		},
		{
			{"no ROM", impl.ErrSize, func(p *snapPieces) { p.rom = "" }},
			{"a ROM of 63", impl.ErrSize, func(p *snapPieces) { p.rom = longText(63) }},
			{"a ROM of 65", impl.ErrSize, func(p *snapPieces) { p.rom = longText(65) }},
		},
		{
			{"no text", impl.ErrEnd, func(p *snapPieces) { p.most = 0 }},
			{"14 bytes", impl.ErrEnd, func(p *snapPieces) { p.most = 14 }},
		},
		{headFault("version 2", impl.ErrModel, 0, 2), headFault("version 255", impl.ErrModel, 0, 255)},
		{
			headFault("register 6", impl.ErrForm, 7, 1),
			headFault("Ei alone", impl.ErrForm, 12, 2),
			headFault("a bit above", impl.ErrForm, 12, 32),
			headFault("a Page", impl.ErrForm, 13, 4),
			headFault("a Border", impl.ErrForm, 14, 32),
		},
	}
	for number := range 4 {
		rows = append(rows, bankFaults(number))
	}
	return append(rows, []snapFault{
		{"one behind", impl.ErrSize, func(p *snapPieces) { p.behind = "x" }},
		{"many behind", impl.ErrSize, func(p *snapPieces) { p.behind = longText(1000) }},
	})
}

func rightPieces() snapPieces {
	text := snapWritten(newSnap())
	return snapPieces{head: [15]byte([]byte(text[:15])), banks: [4]string{noughts, noughts, noughts, noughts}, most: impl.MaxText, rom: longText(64)}
}

// Of two faults the one that is looked for first is told. It is made last, as both may be of one piece.
func TestReadSnapTellsWhatComesFirst(t *testing.T) {
	rows := snapFaults()
	for i, row := range rows {
		for _, first := range row {
			p := rightPieces()
			first.make(&p)
			checkNoSnap(t, p.text(), p.rom, first.code)
			for _, later := range rows[i+1:] {
				for _, second := range later {
					p := rightPieces()
					second.make(&p)
					first.make(&p)
					if got, code := impl.ReadSnap(p.text(), p.rom); code != first.code || !isZeroSnap(got) {
						t.Error("of", first.name, "and", second.name, "ReadSnap is", code, short(got))
					}
				}
			}
		}
	}
}

func TestReadSnapOfAllFaultsAtOnce(t *testing.T) {
	rows := snapFaults()
	for i := range rows {
		p := rightPieces()
		for k := len(rows) - 1; k >= i; k-- {
			rows[k][0].make(&p)
		}
		checkNoSnap(t, p.text(), p.rom, rows[i][0].code)
	}
}

// spoilt is s with some bytes that are others, come or go.
func (l *lot) spoilt(s string) string {
	for range 1 + l.below(3) {
		if s == "" {
			return "\x03"
		}
		at := l.below(len(s))
		if l.below(2) == 0 {
			at = l.below(min(24, len(s)))
		}
		switch l.below(5) {
		case 0:
			s = s[:at] + s[at+1:]
		case 1:
			s = s[:at] + string([]byte{byte(l.someByte())}) + s[at:]
		case 2:
			s = s[:at] + string([]byte{s[at] ^ 1<<l.below(8)}) + s[at+1:]
		case 3:
			s = s[:at] + string([]byte{byte(l.below(256))}) + s[at+1:]
		case 4:
			s = s[:at] + s[at:min(len(s), at+l.below(9))] + s[at:]
		}
	}
	return s
}

func TestReadSnapOfSpoiltTexts(t *testing.T) {
	l := lot(1311)
	codes := map[int]int{}
	for range 300 {
		s := l.someSnap()
		text, rom := snapWritten(s), romOf(s)
		for range 30 {
			bad := l.spoilt(text)
			checkReadAsWritten(t, bad, rom)
			_, code := impl.ReadSnap(bad, rom)
			codes[code]++
		}
	}
	for _, code := range []int{impl.OK, impl.ErrModel, impl.ErrForm, impl.ErrEnd, impl.ErrSize} {
		if codes[code] < 20 {
			t.Error("code", code, "was told only", codes[code], "times")
		}
	}
}

func TestReadSnapOfAnyTexts(t *testing.T) {
	for _, s := range anyTexts() {
		for _, rom := range []string{"", longText(64), longText(65)} {
			checkReadAsWritten(t, s, rom)
			checkReadAsWritten(t, "\x03"+times(14, "\x00")+s, rom)
			checkReadAsWritten(t, longText(64), s)
		}
	}
}
