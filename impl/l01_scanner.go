package impl

import (
	"strconv"
	"strings"
	"unicode/utf8"
)

const (
	MaxSource = 4000
	MaxTokens = 1200

	TkName   = 1
	TkKey    = 2
	TkNumber = 3
	TkChar   = 4
	TkSign   = 5
)

type Token struct {
	Kind, N int
	Text    string
	At      int
}

// maxHexDigits is how many digits may stand ahead of the X of a character.
const maxHexDigits = 7

var keyWords = [...]string{
	"MODULE", "IMPORT", "CONST", "VAR", "PROCEDURE", "BEGIN", "END",
	"IF", "THEN", "ELSIF", "ELSE", "WHILE", "DO", "RETURN",
	"OR", "DIV", "MOD", "TRUE", "FALSE",
	"ARRAY", "OF", "INTEGER", "BOOLEAN", "CHAR",
	"WRITE", "READ", "ORD", "CHR", "LEN",
}

func IsKey(t string) bool {
	for _, word := range keyWords {
		if word == t {
			return true
		}
	}
	return false
}

// Tokens goes along t by runes and passes over those within what it has taken already.
func Tokens(t string) ([]Token, int, int) {
	if len(t) > MaxText {
		return nil, ErrLong, 0
	}
	if len(t) > MaxSource {
		return nil, ErrSize, 0
	}
	var list []Token
	behind := 0
scan:
	for at, r := range t {
		switch {
		case at < behind || isBlank(r):
			continue scan
		case strings.HasPrefix(t[at:], "(*"):
			length := remarkLength(t[at:])
			if length == 0 {
				return nil, ErrSyntax, at
			}
			behind = at + length
			continue scan
		}
		token, length := firstToken(t[at:])
		if length == 0 {
			return nil, ErrSyntax, at
		}
		if len(list) == MaxTokens {
			return nil, ErrMany, at
		}
		token.At = at
		token.Text = strings.Clone(token.Text) // an answer shares nothing with t
		list = append(list, token)
		behind = at + length
	}
	return list, OK, 0
}

func CharText(c int) (string, int) {
	if !CharOK(c) {
		return "", ErrRange
	}
	if needsNumber(rune(c)) {
		return "0" + strings.ToUpper(strconv.FormatInt(int64(c), 16)) + "X", OK
	}
	return `"` + string(rune(c)) + `"`, OK
}

func CharOK(c int) bool {
	return 0 <= c && c <= 0xD7FF || 0xE000 <= c && c <= utf8.MaxRune
}

func isBlank(r rune) bool {
	return r == ' ' || r == '\t' || r == '\n' || r == '\r'
}

// needsNumber tells the characters that may not stand between quotes.
func needsNumber(c rune) bool {
	return c < 32 || c == 127 || c == '"'
}

// remarkLength is 0 if the remark that rest begins with does not end.
func remarkLength(rest string) int {
	open := 0
	last := rune(0)
	for at, r := range rest {
		switch {
		case last == '(' && r == '*':
			open++
			r = 0 // so that (*) does not end what it begins
		case last == '*' && r == ')':
			open--
			if open == 0 {
				return at + 1
			}
		}
		last = r
	}
	return 0
}

// firstToken answers the token that rest begins with and its length, which is 0 if there is none.
func firstToken(rest string) (Token, int) {
	first := rune(rest[0])
	switch {
	case isLetter(first):
		return wordToken(rest)
	case isDigit(first):
		return digitToken(rest)
	case first == '"':
		return quotedToken(rest)
	}
	length := signLength(rest)
	return Token{Kind: TkSign, Text: rest[:length]}, length
}

func wordToken(rest string) (Token, int) {
	word := rest[:wordLength(rest)]
	switch {
	case len(word) > MaxName:
		return Token{}, 0
	case IsKey(word):
		return Token{Kind: TkKey, Text: word}, len(word)
	}
	return Token{Kind: TkName, Text: word}, len(word)
}

func digitToken(rest string) (Token, int) {
	word := rest[:wordLength(rest)]
	if n, ok := wholeNumber(word); ok {
		return Token{Kind: TkNumber, N: n}, len(word)
	}
	if c, ok := numberedCharacter(word); ok {
		return Token{Kind: TkChar, N: c}, len(word)
	}
	return Token{}, 0
}

func quotedToken(rest string) (Token, int) {
	c, width := utf8.DecodeRuneInString(rest[1:])
	broken := c == utf8.RuneError && width < 2 // U+FFFD itself, rightly written, has three bytes
	if broken || needsNumber(c) || !strings.HasPrefix(rest[1+width:], `"`) {
		return Token{}, 0
	}
	return Token{Kind: TkChar, N: int(c)}, width + 2
}

// signLength is 0 if rest begins with no sign.
func signLength(rest string) int {
	switch rest[0] {
	case ':', '<', '>':
		if strings.HasPrefix(rest[1:], "=") {
			return 2
		}
		fallthrough
	case '=', '#', '+', '-', '*', '(', ')', '[', ']', ',', ';', '.', '&', '~':
		return 1
	}
	return 0
}

// wordLength is how many letters and digits rest begins with.
func wordLength(rest string) int {
	for at, r := range rest {
		if !isLetter(r) && !isDigit(r) {
			return at
		}
	}
	return len(rest)
}

// numberedCharacter reads a word that begins with a digit.
func numberedCharacter(word string) (int, bool) {
	digits, ok := strings.CutSuffix(word, "X")
	if !ok || len(digits) > maxHexDigits {
		return 0, false
	}
	c := 0
	for _, r := range digits {
		switch {
		case isDigit(r):
			c = c*16 + int(r-'0')
		case 'A' <= r && r <= 'F':
			c = c*16 + int(r-'A') + 10
		default:
			return 0, false
		}
	}
	return c, CharOK(c)
}
