package impl

const (
	MaxText = 65536
	MaxList = 4096
	MaxName = 40

	OK         = 0
	ErrBad     = 1
	ErrLong    = 2
	ErrForm    = 3
	ErrRange   = 4
	ErrNone    = 5
	ErrMany    = 6
	ErrFull    = 7
	ErrSize    = 8
	ErrEnd     = 9
	ErrSum     = 10
	ErrOp      = 11
	ErrLocked  = 12
	ErrStopped = 13
	ErrLevel   = 14
	ErrPilot   = 15
	ErrPulse   = 16
	ErrBits    = 17
	ErrModel   = 18
	ErrHalt    = 19
)

// The place of a word is its code.
var codeWords = [20]string{
	"ok", "bad", "long", "form", "range",
	"none", "many", "full", "size", "end",
	"sum", "op", "locked", "stopped", "level",
	"pilot", "pulse", "bits", "model", "halt",
}

func NameOK(t string) bool {
	if len(t) < 1 || len(t) > MaxName || isDigit(t[0]) {
		return false
	}
	for i := range len(t) {
		if !isNameLetter(t[i]) && !isDigit(t[i]) {
			return false
		}
	}
	return true
}

func isNameLetter(b byte) bool {
	return b >= 'a' && b <= 'z' || b >= 'A' && b <= 'Z' || b == '_'
}

func isDigit(b byte) bool {
	return b >= '0' && b <= '9'
}

func CodeWord(code int) string {
	if code < 0 || code >= len(codeWords) {
		return ""
	}
	return codeWords[code]
}

func CodeOf(word string) int {
	for code := range len(codeWords) {
		if codeWords[code] == word {
			return code
		}
	}
	return -1
}
