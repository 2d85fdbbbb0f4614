package tests

import (
	"math"
	"strings"
	"testing"

	"loop.example/g00168/impl"
)

// documentCodes is the table of chapter 1, in its order.
var documentCodes = []struct {
	code int
	word string
}{
	{impl.OK, "ok"}, {impl.ErrBad, "bad"}, {impl.ErrLong, "long"}, {impl.ErrForm, "form"}, {impl.ErrSyntax, "syntax"},
	{impl.ErrName, "name"}, {impl.ErrTwice, "twice"}, {impl.ErrType, "type"}, {impl.ErrCount, "count"}, {impl.ErrResult, "result"},
	{impl.ErrPlace, "place"}, {impl.ErrRange, "range"}, {impl.ErrNone, "none"}, {impl.ErrMany, "many"}, {impl.ErrDeep, "deep"},
	{impl.ErrSize, "size"}, {impl.ErrSum, "sum"}, {impl.ErrPrint, "print"}, {impl.ErrCycle, "cycle"},
}

func TestConstants(t *testing.T) {
	if impl.MaxText != 65536 || impl.MaxList != 4096 || impl.MaxName != 40 {
		t.Error("bounds of chapter 1")
	}
	if impl.MaxSource != 4000 || impl.MaxTokens != 1200 {
		t.Error("bounds of chapter 2")
	}
	kinds := []int{impl.TkName, impl.TkKey, impl.TkNumber, impl.TkChar, impl.TkSign}
	for i, kind := range kinds {
		if kind != i+1 {
			t.Errorf("kind of token %d is %d", i+1, kind)
		}
	}
}

func TestCodesAndWords(t *testing.T) {
	for number, c := range documentCodes {
		if c.code != number {
			t.Errorf("%q has the number %d, want %d", c.word, c.code, number)
		}
		if got := impl.CodeWord(number); got != c.word {
			t.Errorf("CodeWord(%d) = %q, want %q", number, got, c.word)
		}
		if got := impl.CodeOf(c.word); got != number {
			t.Errorf("CodeOf(%q) = %d, want %d", c.word, got, number)
		}
	}
}

func TestCodeWordOfOtherNumbers(t *testing.T) {
	for _, code := range []int{-1, -18, 19, 20, 256, 1 << 32, math.MinInt, math.MaxInt} {
		if got := impl.CodeWord(code); got != "" {
			t.Errorf("CodeWord(%d) = %q, want none", code, got)
		}
	}
}

func TestCodeOfOtherTexts(t *testing.T) {
	long := strings.Repeat("ok", impl.MaxText)
	for _, word := range []string{"", "o", "OK", "Ok", "ok ", " ok", "okay", "cycl", "cycles", "0", "\x00", "\xff", long} {
		if got := impl.CodeOf(word); got != -1 {
			t.Errorf("CodeOf(%.20q) = %d, want -1", word, got)
		}
	}
}

func TestNameOK(t *testing.T) {
	full := "a" + strings.Repeat("Z9_", 13)
	for _, c := range []struct {
		text string
		want bool
	}{
		{"a", true}, {"z", true}, {"A", true}, {"Z", true}, {"_", true}, {"__9", true}, {"x1", true}, {"aZ_09", true},
		{"END", true}, {"MODULE", true}, {full, true}, {full[1:] + "a", true},
		{"", false}, {"1", false}, {"1a", false}, {" a", false}, {"a ", false}, {"a b", false}, {"a-b", false}, {"a.b", false},
		{"é", false}, {"aé", false}, {"aｂ", false}, {"a٣", false}, {"a\xff", false}, {"a\x00", false}, {"a\n", false},
		{full + "a", false}, {strings.Repeat("a", impl.MaxText), false}, {strings.Repeat("a", impl.MaxText+1), false},
	} {
		if got := impl.NameOK(c.text); got != c.want {
			t.Errorf("NameOK(%.50q) = %v", c.text, got)
		}
	}
	if len(full) != impl.MaxName {
		t.Fatal("the longest name of this test is of another length")
	}
}

func TestNameOKOfEachByte(t *testing.T) {
	const letters = "abcdefghijklmnopqrstuvwxyzABCDEFGHIJKLMNOPQRSTUVWXYZ_"
	for b := 0; b < 256; b++ {
		one := string([]byte{byte(b)})
		first := strings.Contains(letters, one)
		later := strings.Contains(letters+"0123456789", one)
		if got := impl.NameOK(one); got != first {
			t.Errorf("NameOK(%q) = %v", one, got)
		}
		if got := impl.NameOK("q" + one); got != later {
			t.Errorf("NameOK(%q) = %v", "q"+one, got)
		}
	}
}
