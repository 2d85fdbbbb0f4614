package tests

import (
	"reflect"
	"strconv"
	"strings"
	"testing"

	"loop.example/g00168/impl"
)

const documentKeys = "MODULE IMPORT CONST VAR PROCEDURE BEGIN END IF THEN ELSIF ELSE WHILE DO RETURN OR DIV MOD TRUE FALSE ARRAY OF INTEGER BOOLEAN CHAR WRITE READ ORD CHR LEN"

const documentSigns = ":= <= >= = # < > + - * ( ) [ ] , ; : . & ~"

func name(at int, text string) impl.Token {
	return impl.Token{Kind: impl.TkName, Text: text, At: at}
}

func key(at int, text string) impl.Token {
	return impl.Token{Kind: impl.TkKey, Text: text, At: at}
}

func number(at, n int) impl.Token {
	return impl.Token{Kind: impl.TkNumber, N: n, At: at}
}

func char(at, c int) impl.Token {
	return impl.Token{Kind: impl.TkChar, N: c, At: at}
}

func sign(at int, text string) impl.Token {
	return impl.Token{Kind: impl.TkSign, Text: text, At: at}
}

func wantTokens(t *testing.T, text string, want ...impl.Token) {
	t.Helper()
	got, code, place := impl.Tokens(text)
	if code != impl.OK || place != 0 {
		t.Errorf("Tokens(%.60q): code %d at %d, want none", text, code, place)
		return
	}
	if len(got) != len(want) || len(want) > 0 && !reflect.DeepEqual(got, want) {
		t.Errorf("Tokens(%.60q) = %v, want %v", text, got, want)
	}
}

func wantFault(t *testing.T, text string, code, place int) {
	t.Helper()
	list, gotCode, gotPlace := impl.Tokens(text)
	if gotCode != code || gotPlace != place {
		t.Errorf("Tokens(%.60q): code %d at %d, want %d at %d", text, gotCode, gotPlace, code, place)
	}
	if gotCode != impl.OK && len(list) != 0 {
		t.Errorf("Tokens(%.60q): a code and %d tokens", text, len(list))
	}
}

func TestKeys(t *testing.T) {
	keys := strings.Fields(documentKeys)
	if len(keys) != 29 {
		t.Fatal("the document has 29 words")
	}
	for _, word := range keys {
		if !impl.IsKey(word) {
			t.Errorf("%s is a word", word)
		}
		wantTokens(t, word, key(0, word))
		for _, other := range []string{strings.ToLower(word), word + "S", word + "1", "X" + word, "_" + word, word + "_"} {
			if impl.IsKey(other) {
				t.Errorf("%s is no word", other)
			}
			wantTokens(t, other, name(0, other))
		}
	}
	for _, other := range []string{"", " ", "END ", " END", "EN", "BOOL", "STRING", "FOR", "TO", "NOT", documentKeys, strings.Repeat("END", impl.MaxText)} {
		if impl.IsKey(other) {
			t.Errorf("%.50q is no word", other)
		}
	}
}

func TestNoTokens(t *testing.T) {
	for _, text := range []string{"", " ", "\t", "\n", "\r", " \r\n\t ", "(**)", " (* *)\n(*\xff*) "} {
		wantTokens(t, text)
	}
}

func TestWords(t *testing.T) {
	wantTokens(t, "a", name(0, "a"))
	wantTokens(t, "_", name(0, "_"))
	wantTokens(t, "x1 x_1\tXyZ\n_9", name(0, "x1"), name(3, "x_1"), name(7, "XyZ"), name(11, "_9"))
	wantTokens(t, "END END1 end", key(0, "END"), name(4, "END1"), name(9, "end"))
	wantTokens(t, "FFX X", name(0, "FFX"), name(4, "X"))
	full := strings.Repeat("a", impl.MaxName)
	wantTokens(t, full+" "+full, name(0, full), name(41, full))
	wantFault(t, full+"a", impl.ErrSyntax, 0)
	wantFault(t, "x "+full+"1;", impl.ErrSyntax, 2)
	wantFault(t, "x "+strings.Repeat("a", 3998), impl.ErrSyntax, 2)
	wantFault(t, "aé", impl.ErrSyntax, 1)
	wantFault(t, "é", impl.ErrSyntax, 0)
}

func TestNumbers(t *testing.T) {
	wantTokens(t, "0", number(0, 0))
	wantTokens(t, "0 9 10 4096", number(0, 0), number(2, 9), number(4, 10), number(7, 4096))
	wantTokens(t, "-1", sign(0, "-"), number(1, 1))
	wantTokens(t, "-0", sign(0, "-"), number(1, 0))
	wantTokens(t, "1.2", number(0, 1), sign(1, "."), number(2, 2))
	wantTokens(t, "100000000000000000", number(0, 100000000000000000))
	wantTokens(t, "999999999999999999;", number(0, 999999999999999999), sign(18, ";"))
	for _, word := range []string{
		"1000000000000000000", "9999999999999999999", "99999999999999999999999999", strings.Repeat("9", 3000),
		"00", "01", "007", "0000", "000000000000000000", "1a", "1_", "0_0", "12ab", "9A", "0xFF", "1e5", "12END",
	} {
		wantFault(t, word, impl.ErrSyntax, 0)
		wantFault(t, "x := "+word+";", impl.ErrSyntax, 5)
	}
	wantFault(t, "1é", impl.ErrSyntax, 1)
}

func TestNumberedCharacters(t *testing.T) {
	for _, c := range []struct {
		text string
		c    int
	}{
		{"0X", 0}, {"00X", 0}, {"0000000X", 0}, {"9X", 9}, {"0AX", 10}, {"0FX", 15}, {"10X", 16}, {"41X", 'A'}, {"0000041X", 'A'},
		{"07FX", 127}, {"7FX", 127}, {"22X", '"'}, {"0E9X", 233}, {"0D7FFX", 0xD7FF}, {"0E000X", 0xE000}, {"0FFFFX", 0xFFFF},
		{"0FFFDX", 0xFFFD}, {"10000X", 0x10000}, {"10FFFFX", 0x10FFFF}, {"010FFFFX", 0x10FFFF},
	} {
		wantTokens(t, c.text, char(0, c.c))
		wantTokens(t, "a "+c.text+"+1", name(0, "a"), char(2, c.c), sign(2+len(c.text), "+"), number(3+len(c.text), 1))
	}
	for _, text := range []string{
		"0D800X", "0DFFFX", "0DABCX", "110000X", "0110000X", "9FFFFFFX", "9999999X", "00000000X", "00000041X", "100000041X",
		"0x", "0Ax", "0aX", "0fX", "0GX", "0XX", "0X0", "0AX1", "0AXa", "0_X", "0AX_", "0A", "0AH", strings.Repeat("0", 3000) + "X",
	} {
		wantFault(t, text, impl.ErrSyntax, 0)
		wantFault(t, "a "+text, impl.ErrSyntax, 2)
	}
	wantFault(t, "0AXé", impl.ErrSyntax, 3)
}

func TestQuotedCharacters(t *testing.T) {
	for _, c := range []rune{
		' ', '!', '#', 'a', '~', '\'', '\\', 0x80, 0x85, 0xA0, 0xE9, 0x7FF, 0x800, 0x20AC, 0xD7FF, 0xE000, 0xFEFF, 0xFFFD, 0xFFFF, 0x10000, 0x1F600, 0x10FFFF,
	} {
		text := "\"" + string(c) + "\""
		wantTokens(t, text, char(0, int(c)))
		wantTokens(t, text+text+"x", char(0, int(c)), char(len(text), int(c)), name(2*len(text), "x"))
	}
	wantTokens(t, "\"(\"*\")\"", char(0, '('), sign(3, "*"), char(4, ')'))
}

func TestWrongQuotes(t *testing.T) {
	for _, inside := range []string{
		"", "ab", "aé", "éa", "\x00", "\x1f", "\t", "\n", "\r", "\x7f", "\"",
		"\x80", "\xbf", "\xff", "\xfe", "\xc3", "\xc0\x80", "\xc1\xbf", "\xc2", "\xc3(", "\xe2\x82", "\xe0\x80\x80", "\xe0\x9f\xbf",
		"\xed\xa0\x80", "\xed\xbf\xbf", "\xf0\x9f\x98", "\xf0\x80\x80\x80", "\xf0\x8f\xbf\xbf", "\xf4\x90\x80\x80", "\xf5\x80\x80\x80", "\xf8\x88\x80\x80\x80",
		"e\u0301", "\\n",
	} {
		text := "\"" + inside + "\""
		wantFault(t, text, impl.ErrSyntax, 0)
		wantFault(t, "x "+text+" y", impl.ErrSyntax, 2)
	}
	for _, text := range []string{"\"", "\"a", "\"é", "\"\xc3", "\"\xef\xbf\xbd", "\"\xf0\x9f\x98\x80", "\"a'", "\" a\""} {
		wantFault(t, text, impl.ErrSyntax, 0)
		wantFault(t, "END "+text, impl.ErrSyntax, 4)
	}
	wantFault(t, "\"\"\"\"", impl.ErrSyntax, 0)
	wantFault(t, "\"a\"\"", impl.ErrSyntax, 3)
}

func TestSigns(t *testing.T) {
	signs := strings.Fields(documentSigns)
	if len(signs) != 20 {
		t.Fatal("the document has 20 signs")
	}
	for _, s := range signs {
		wantTokens(t, s, sign(0, s))
		wantTokens(t, "a"+s+"1", name(0, "a"), sign(1, s), number(1+len(s), 1))
		wantTokens(t, s+" "+s, sign(0, s), sign(1+len(s), s))
	}
	wantTokens(t, ":==", sign(0, ":="), sign(2, "="))
	wantTokens(t, "::=", sign(0, ":"), sign(1, ":="))
	wantTokens(t, ": =", sign(0, ":"), sign(2, "="))
	wantTokens(t, "<=>=", sign(0, "<="), sign(2, ">="))
	wantTokens(t, "<>", sign(0, "<"), sign(1, ">"))
	wantTokens(t, "=<", sign(0, "="), sign(1, "<"))
	wantTokens(t, "=>", sign(0, "="), sign(1, ">"))
	wantTokens(t, "#=", sign(0, "#"), sign(1, "="))
	wantTokens(t, "..", sign(0, "."), sign(1, "."))
	wantTokens(t, "*)", sign(0, "*"), sign(1, ")"))
	wantTokens(t, "( *", sign(0, "("), sign(2, "*"))
	wantTokens(t, "(", sign(0, "("))
}

func TestBytesThatBeginNoToken(t *testing.T) {
	const begins = "\"()*+,-.:;<=>#&[]~_ \t\n\r" + "0123456789" + "abcdefghijklmnopqrstuvwxyz" + "ABCDEFGHIJKLMNOPQRSTUVWXYZ"
	for b := 0; b < 256; b++ {
		text := string([]byte{byte(b)})
		if strings.Contains(begins, text) {
			continue
		}
		wantFault(t, text, impl.ErrSyntax, 0)
		wantFault(t, "a "+text+" b", impl.ErrSyntax, 2)
		wantFault(t, "a:="+text, impl.ErrSyntax, 3)
	}
	for _, text := range []string{"é", "€", "\U0001F600", "\ufeff", "\u00a0", "\u2028", "\xed\xa0\x80", "x'", "{", "a\vb", "a\fb"} {
		_, code, _ := impl.Tokens(text)
		if code != impl.ErrSyntax {
			t.Errorf("Tokens(%q): code %d", text, code)
		}
	}
}

func TestRemarks(t *testing.T) {
	for _, remark := range []string{
		"(**)", "(***)", "(****)", "(* *)", "(* ( *)", "(* ) *)", "(*)*)", "(*(**)*)", "(* (* (* *) *) *)", "(*(*(**)*)(**)*)",
		"(* (*) *) *)", "(*(*)*)*)", "(* * ) *)", "(* \" *)", "(* \"*)", "(* 'x' 12ab ? *)", "(*\n\r\t*)", "(*\x00\x01\x7f*)",
		"(*é€\U0001F600*)", "(*\xff\xfe*)", "(*\xe2*)", "(*\xf0\x9f*)", "(*(\xc3*)", "(* END *)", "(*((*)*)*)", "(*** (* **) ***)",
	} {
		wantTokens(t, remark)
		wantTokens(t, "a"+remark+"b", name(0, "a"), name(1+len(remark), "b"))
		wantTokens(t, remark+remark+":="+remark, sign(2*len(remark), ":="))
	}
	wantTokens(t, "(* a *) *)", sign(8, "*"), sign(9, ")"))
	wantTokens(t, "1(**)2", number(0, 1), number(5, 2))
	wantTokens(t, ":(**)=", sign(0, ":"), sign(5, "="))
	deep := strings.Repeat("(*", 1000) + strings.Repeat("*)", 1000)
	wantTokens(t, deep)
	wantFault(t, deep[:len(deep)-2], impl.ErrSyntax, 0)
	wantTokens(t, deep[2:], sign(3996, "*"), sign(3997, ")"))
}

func TestRemarksThatDoNotEnd(t *testing.T) {
	for _, remark := range []string{
		"(*", "(*)", "(* ", "(* *", "(* )", "(* * )", "(* (* *)", "(*(**)", "(*(*)*)", "(* (* *) (* *)", "(*\xff", "(* *\xff)", "(* a (* b", "(*(", "(*(*(*", "(*é",
	} {
		wantFault(t, remark, impl.ErrSyntax, 0)
		wantFault(t, "x "+remark, impl.ErrSyntax, 2)
		wantFault(t, "f"+remark, impl.ErrSyntax, 1)
	}
	wantFault(t, "(* *) (* (* *)", impl.ErrSyntax, 6)
	wantFault(t, strings.Repeat("(*", 2000), impl.ErrSyntax, 0)
}

func TestWhatIsMetFirst(t *testing.T) {
	wantFault(t, "0FX 0GX ?", impl.ErrSyntax, 4)
	wantFault(t, "? 0GX", impl.ErrSyntax, 0)
	wantFault(t, "(* ? *) \"?\" ? ??", impl.ErrSyntax, 12)
	wantFault(t, "a (* ?", impl.ErrSyntax, 2)
	wantFault(t, "a ? (*", impl.ErrSyntax, 2)
}

func TestLongSources(t *testing.T) {
	wantTokens(t, strings.Repeat(" ", impl.MaxSource))
	wantTokens(t, strings.Repeat(" ", impl.MaxSource-1)+";", sign(impl.MaxSource-1, ";"))
	wantTokens(t, "(*"+strings.Repeat("é", (impl.MaxSource-4)/2)+"*)")
	for _, text := range []string{
		strings.Repeat(" ", impl.MaxSource+1), strings.Repeat(";", impl.MaxSource+1), "?" + strings.Repeat(" ", impl.MaxSource),
		strings.Repeat("é", impl.MaxSource/2) + "x", strings.Repeat("(", impl.MaxText), strings.Repeat("\xff", impl.MaxText),
	} {
		wantFault(t, text, impl.ErrSize, 0)
	}
	for _, text := range []string{strings.Repeat(" ", impl.MaxText+1), strings.Repeat("?", impl.MaxText+1), strings.Repeat("a;", impl.MaxText)} {
		wantFault(t, text, impl.ErrLong, 0)
	}
}

func TestManyTokens(t *testing.T) {
	full := strings.Repeat("a;", impl.MaxTokens/2)
	list, code, place := impl.Tokens(full)
	if len(list) != impl.MaxTokens || code != impl.OK || place != 0 {
		t.Fatal("the most tokens:", len(list), code, place)
	}
	if last := list[impl.MaxTokens-1]; last != sign(impl.MaxTokens-1, ";") {
		t.Error("the last one:", last)
	}
	for _, behind := range []string{"", " \n", "(* a *)", "(* (* b *) *) \t"} {
		if list, code, _ := impl.Tokens(full + behind); len(list) != impl.MaxTokens || code != impl.OK {
			t.Errorf("%q behind the last token: code %d", behind, code)
		}
	}
	for _, c := range []struct {
		behind     string
		code, back int
	}{
		{"a", impl.ErrMany, 0}, {"  END ?", impl.ErrMany, 2}, {"(* *)+", impl.ErrMany, 5}, {"\"é\" (*", impl.ErrMany, 0}, {" 12 (*", impl.ErrMany, 1},
		{"?", impl.ErrSyntax, 0}, {" (* a", impl.ErrSyntax, 1}, {" 007 a", impl.ErrSyntax, 1}, {"\"", impl.ErrSyntax, 0},
		{strings.Repeat("a", impl.MaxName+1), impl.ErrSyntax, 0},
	} {
		wantFault(t, full+c.behind, c.code, len(full)+c.back)
	}
	wantFault(t, "?"+full+"a", impl.ErrSyntax, 0)
	wantFault(t, strings.Repeat(";", impl.MaxSource), impl.ErrMany, impl.MaxTokens)
}

func TestAModuleOfTokens(t *testing.T) {
	wantTokens(t, "MODULE M;(*x*)BEGIN a[0]:=\"€\" END M.",
		key(0, "MODULE"), name(7, "M"), sign(8, ";"), key(14, "BEGIN"), name(20, "a"), sign(21, "["), number(22, 0), sign(23, "]"),
		sign(24, ":="), char(26, 0x20AC), key(32, "END"), name(36, "M"), sign(37, "."))
}

func TestCharOK(t *testing.T) {
	const least, most = -1 << 63, 1<<63 - 1
	for _, c := range []struct {
		c    int
		want bool
	}{
		{0, true}, {'a', true}, {0xD7FF, true}, {0xE000, true}, {0xFFFD, true}, {0xFFFF, true}, {0x10FFFF, true},
		{-1, false}, {0xD800, false}, {0xDBFF, false}, {0xDC00, false}, {0xDFFF, false}, {0x110000, false},
		{1 << 32, false}, {1<<32 + 'a', false}, {-1<<32 + 'a', false}, {least, false}, {most, false},
	} {
		if got := impl.CharOK(c.c); got != c.want {
			t.Errorf("CharOK(%#x) = %v", c.c, got)
		}
		text, code := impl.CharText(c.c)
		if c.want != (code == impl.OK) || !c.want && (code != impl.ErrRange || text != "") {
			t.Errorf("CharText(%#x) = %q, %d", c.c, text, code)
		}
	}
}

func TestCharText(t *testing.T) {
	for _, c := range []struct {
		c    int
		want string
	}{
		{0, "00X"}, {1, "01X"}, {9, "09X"}, {10, "0AX"}, {15, "0FX"}, {16, "010X"}, {31, "01FX"}, {32, "\" \""}, {33, "\"!\""}, {34, "022X"}, {35, "\"#\""},
		{'X', "\"X\""}, {126, "\"~\""}, {127, "07FX"}, {128, "\"\u0080\""}, {0xE9, "\"é\""}, {0x7FF, "\"\u07ff\""}, {0x800, "\"\u0800\""},
		{0xD7FF, "\"\ud7ff\""}, {0xE000, "\"\ue000\""}, {0xFFFD, "\"\ufffd\""}, {0x10000, "\"\U00010000\""}, {0x10FFFF, "\"\U0010ffff\""},
	} {
		if got, code := impl.CharText(c.c); got != c.want || code != impl.OK {
			t.Errorf("CharText(%#x) = %q, %d, want %q", c.c, got, code, c.want)
		}
	}
}

// Promise 2, its second half, for each character that there is.
func TestEachCharactersTextIsOneToken(t *testing.T) {
	count := 0
	for c := -5; c <= 0x110005; c++ {
		text, code := impl.CharText(c)
		if code != impl.OK {
			continue
		}
		count++
		list, code, _ := impl.Tokens(text)
		if code != impl.OK || len(list) != 1 || list[0] != char(0, c) {
			t.Fatalf("the text %q of %#x: %v, code %d", text, c, list, code)
		}
	}
	if count != 0x110000-0x800 {
		t.Error("so many characters have a text:", count)
	}
}

// Promise 2, its first half, for each two tokens: apart they are the two.
func TestTwoTokensWrittenApart(t *testing.T) {
	texts := append(strings.Fields(documentKeys+" "+documentSigns), "a", "_x9", "0", "42", "999999999999999999", "0X", "0AX", "10FFFFX", "\"a\"", "\" \"", "\"é\"", "\"\U0001F600\"")
	for _, gap := range []string{" ", "\t", "\n", "\r", "\r\n ", "(**)", "(*(* *)*)", " (* \xff *) "} {
		for _, first := range texts {
			for _, second := range texts {
				text := first + gap + second
				one, _, _ := impl.Tokens(first)
				two, _, _ := impl.Tokens(second)
				if len(one) != 1 || len(two) != 1 {
					t.Fatalf("%q and %q are one token each", first, second)
				}
				two[0].At = len(first) + len(gap)
				wantTokens(t, text, one[0], two[0])
			}
		}
	}
}

func tokenText(t *testing.T, token impl.Token) string {
	t.Helper()
	switch token.Kind {
	case impl.TkNumber:
		return strconv.Itoa(token.N)
	case impl.TkChar:
		text, code := impl.CharText(token.N)
		if code != impl.OK {
			t.Fatal("a token holds no character:", token)
		}
		return text
	}
	return token.Text
}
