package impl

const (
	MaxText = 65536
	MaxList = 4096
	MaxName = 40
)

// The codes stand in the order of their numbers; codeWords has the same order.
const (
	OK = iota
	ErrBad
	ErrLong
	ErrForm
	ErrRange
	ErrNone
	ErrMany
	ErrFull
	ErrTwice
	ErrHeld
	ErrFenced
	ErrAlive
	ErrName
	ErrStale
	ErrPlace
	ErrClosed
	ErrOpen
	ErrOrder
	ErrBroken
	ErrAbort
)

var codeWords = [...]string{
	"ok", "bad", "long", "form", "range",
	"none", "many", "full", "twice", "held",
	"fenced", "alive", "name", "stale", "place",
	"closed", "open", "order", "broken", "abort",
}

func NameOK(t string) bool {
	if len(t) < 1 || len(t) > MaxName {
		return false
	}
	for i := 0; i < len(t); i++ {
		if !isNameLetter(t[i]) && (i == 0 || !isDigit(t[i])) {
			return false
		}
	}
	return true
}

func CodeWord(code int) string {
	if code < 0 || code >= len(codeWords) {
		return ""
	}
	return codeWords[code]
}

func CodeOf(word string) int {
	for code := 0; code < len(codeWords); code++ {
		if codeWords[code] == word {
			return code
		}
	}
	return -1
}

func isNameLetter(b byte) bool {
	return b >= 'a' && b <= 'z' || b >= 'A' && b <= 'Z' || b == '_'
}

func isDigit(b byte) bool {
	return b >= '0' && b <= '9'
}

// copyList gives nil for every empty list, so that an answer does not tell
// whether its argument was nil or empty.
func copyList[T any](list []T) []T {
	if len(list) == 0 {
		return nil
	}
	out := make([]T, len(list))
	copy(out, list)
	return out
}
