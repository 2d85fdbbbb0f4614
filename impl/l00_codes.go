package impl

const (
	MaxText = 65536
	MaxList = 4096
	MaxName = 40

	OK        = 0
	ErrBad    = 1
	ErrLong   = 2
	ErrForm   = 3
	ErrSyntax = 4
	ErrName   = 5
	ErrTwice  = 6
	ErrType   = 7
	ErrCount  = 8
	ErrResult = 9
	ErrPlace  = 10
	ErrRange  = 11
	ErrNone   = 12
	ErrMany   = 13
	ErrDeep   = 14
	ErrSize   = 15
	ErrSum    = 16
	ErrPrint  = 17
	ErrCycle  = 18
)

// maxDigits keeps a number's text within an int, so that reading one never wraps.
const maxDigits = 18

var codeWords = [...]string{
	OK:        "ok",
	ErrBad:    "bad",
	ErrLong:   "long",
	ErrForm:   "form",
	ErrSyntax: "syntax",
	ErrName:   "name",
	ErrTwice:  "twice",
	ErrType:   "type",
	ErrCount:  "count",
	ErrResult: "result",
	ErrPlace:  "place",
	ErrRange:  "range",
	ErrNone:   "none",
	ErrMany:   "many",
	ErrDeep:   "deep",
	ErrSize:   "size",
	ErrSum:    "sum",
	ErrPrint:  "print",
	ErrCycle:  "cycle",
}

func NameOK(t string) bool {
	if t == "" || len(t) > MaxName {
		return false
	}
	for at, r := range t {
		if !isLetter(r) && (at == 0 || !isDigit(r)) {
			return false
		}
	}
	return true
}

func CodeWord(code int) string {
	if code < 0 || code >= len(codeWords) {
		return ""
	}
	return codeWords[code]
}

func CodeOf(word string) int {
	for code, known := range codeWords {
		if known == word {
			return code
		}
	}
	return -1
}

func isLetter(r rune) bool {
	return 'a' <= r && r <= 'z' || 'A' <= r && r <= 'Z' || r == '_'
}

func isDigit(r rune) bool {
	return '0' <= r && r <= '9'
}

// wholeNumber reads a number's text that has no sign.
func wholeNumber(t string) (int, bool) {
	if t == "" || len(t) > maxDigits || len(t) > 1 && t[0] == '0' {
		return 0, false
	}
	n := 0
	for _, r := range t {
		if !isDigit(r) {
			return 0, false
		}
		n = n*10 + int(r-'0')
	}
	return n, true
}
