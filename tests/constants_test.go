package tests

import (
	"math"
	"testing"

	"loop.example/g00168/impl"
)

const constantsAhead = "IMPORT A; CONST five = 5; yes = TRUE; ex = \"x\"; big = 999999999999999999; huge = big * 9 + 223372036854775816; least = -huge - 1; "

// wantConstant has the value as an exported constant.
func wantConstant(t *testing.T, expr string, ty, value int) {
	t.Helper()
	x, code := impl.InterfaceOf(treeOf(t, "MODULE M; "+constantsAhead+"c* = "+expr+"; END M."), someImports())
	if code != impl.OK || len(x.Items) != 1 {
		t.Errorf("%s: code %d, %v", expr, code, x)
		return
	}
	if got := x.Items[0]; got.Kind != impl.ItConst || got.Name != "c" || got.Type != ty || got.Value != value || got.Length != 0 || got.Params != nil {
		t.Errorf("%s = %v, want %d of type %d", expr, got, value, ty)
	}
}

// wantConstantFault has the nth node of the Kind in the expression at fault.
func wantConstantFault(t *testing.T, expr string, code, kind, nth int) {
	t.Helper()
	wantCheckFault(t, "MODULE M; "+constantsAhead+"c* = "+expr+"; END M.", code, impl.NdConst, kind, nth)
}

func TestValuesOfConstants(t *testing.T) {
	for _, c := range []struct {
		expr  string
		value int
	}{
		{"0", 0}, {"7", 7}, {"five", 5}, {"A.k", -9}, {"-five", -5}, {"- -five", 5}, {"five + A.k", -4}, {"five - 7", -2}, {"five * A.k", -45},
		{"2 + 3 * 4 - 1", 13}, {"(2 + 3) * 4", 20}, {"10 - 3 - 2", 5}, {"ORD(\"a\")", 97}, {"ORD(ex) + 1", 121}, {"ORD(CHR(1114111))", 1114111}, {"ORD(A.c)", 0x10FFFF},
		{"big", 999999999999999999}, {"huge", math.MaxInt}, {"least", math.MinInt},
		{"huge + 1", math.MinInt}, {"least - 1", math.MaxInt}, {"-least", math.MinInt}, {"huge * 2", -2}, {"huge * huge", 1}, {"least * -1", math.MinInt}, {"big * big", mul(999999999999999999, 999999999999999999)},
		{"least DIV -1", math.MinInt}, {"least MOD -1", 0}, {"least DIV 1", math.MinInt}, {"least DIV 2", math.MinInt / 2}, {"least DIV huge", -2}, {"least MOD huge", math.MaxInt - 1}, {"huge DIV least", -1}, {"huge MOD least", -1},
	} {
		wantConstant(t, c.expr, impl.TyInt, c.value)
	}
	for _, c := range []struct {
		expr  string
		value int
	}{
		{"TRUE", 1}, {"FALSE", 0}, {"yes", 1}, {"A.t", 1}, {"~yes", 0}, {"~FALSE", 1}, {"~ ~yes", 1},
		{"TRUE & TRUE", 1}, {"TRUE & FALSE", 0}, {"FALSE & TRUE", 0}, {"FALSE & FALSE", 0}, {"TRUE OR TRUE", 1}, {"TRUE OR FALSE", 1}, {"FALSE OR TRUE", 1}, {"FALSE OR FALSE", 0},
		{"TRUE = TRUE", 1}, {"TRUE = FALSE", 0}, {"TRUE # FALSE", 1}, {"FALSE # FALSE", 0}, {"\"a\" = 061X", 1}, {"\"a\" # ex", 1},
		{"1 = 1", 1}, {"1 = 2", 0}, {"1 # 1", 0}, {"1 # 2", 1},
		{"1 < 1", 0}, {"1 < 2", 1}, {"2 < 1", 0}, {"1 <= 1", 1}, {"1 <= 2", 1}, {"2 <= 1", 0}, {"1 > 1", 0}, {"1 > 2", 0}, {"2 > 1", 1}, {"1 >= 1", 1}, {"1 >= 2", 0}, {"2 >= 1", 1},
		{"least < huge", 1}, {"huge < least", 0}, {"-1 < 0", 1}, {"-1 > 0", 0}, {"\"a\" < \"b\"", 1}, {"\"b\" <= \"a\"", 0}, {"A.c > \"é\"", 1}, {"00X >= ex", 0},
	} {
		wantConstant(t, c.expr, impl.TyBool, c.value)
	}
	wantConstant(t, "\"é\"", impl.TyChar, 233)
	wantConstant(t, "ex", impl.TyChar, 120)
	wantConstant(t, "00X", impl.TyChar, 0)
	wantConstant(t, "A.c", impl.TyChar, 0x10FFFF)
	wantConstant(t, "CHR(0)", impl.TyChar, 0)
	wantConstant(t, "CHR(ORD(ex) + 1)", impl.TyChar, 121)
	wantConstant(t, "CHR(55295)", impl.TyChar, 0xD7FF)
	wantConstant(t, "CHR(57344)", impl.TyChar, 0xE000)
	wantConstant(t, "CHR(1114111)", impl.TyChar, 0x10FFFF)
}

// mul is no constant of Go's, which would not wrap.
func mul(a, b int) int { return a * b }

func TestDivisionsAreRoundedDown(t *testing.T) {
	for _, c := range []struct {
		left, right   string
		quotient, mod int
	}{
		{"7", "2", 3, 1}, {"-7", "2", -4, 1}, {"7", "-2", -4, -1}, {"-7", "-2", 3, -1},
		{"6", "3", 2, 0}, {"-6", "3", -2, 0}, {"6", "-3", -2, 0}, {"-6", "-3", 2, 0},
		{"1", "5", 0, 1}, {"-1", "5", -1, 4}, {"1", "-5", -1, -4}, {"-1", "-5", 0, -1}, {"0", "5", 0, 0}, {"0", "-5", 0, 0},
	} {
		wantConstant(t, "("+c.left+") DIV ("+c.right+")", impl.TyInt, c.quotient)
		wantConstant(t, "("+c.left+") MOD ("+c.right+")", impl.TyInt, c.mod)
	}
}

func TestConstantsOutOfRange(t *testing.T) {
	wantConstantFault(t, "1 DIV 0", impl.ErrRange, impl.NdBinary, 1)
	wantConstantFault(t, "1 MOD 0", impl.ErrRange, impl.NdBinary, 1)
	wantConstantFault(t, "0 DIV (five - 5)", impl.ErrRange, impl.NdBinary, 1)
	wantConstantFault(t, "1 + 2 MOD (1 - 1)", impl.ErrRange, impl.NdBinary, 2)
	for _, number := range []string{"-1", "55296", "57343", "1114112", "least", "big"} {
		wantConstantFault(t, "CHR("+number+")", impl.ErrRange, impl.NdChr, 1)
		wantConstantFault(t, "ORD(CHR("+number+"))", impl.ErrRange, impl.NdChr, 1)
	}
	// Both sides are worked out, the left one first.
	wantConstantFault(t, "FALSE & (1 DIV 0 = 1)", impl.ErrRange, impl.NdBinary, 3)
	wantConstantFault(t, "TRUE OR (1 MOD 0 = 1)", impl.ErrRange, impl.NdBinary, 3)
	wantConstantFault(t, "1 DIV 0 + 2 DIV 0", impl.ErrRange, impl.NdBinary, 2)
	wantConstantFault(t, "(1 DIV 0) DIV 0", impl.ErrRange, impl.NdBinary, 2)
	wantConstantFault(t, "1 DIV (2 MOD 0)", impl.ErrRange, impl.NdBinary, 2)
	wantConstantFault(t, "(1 DIV 0 = 1) = (A.x = 1)", impl.ErrRange, impl.NdBinary, 3)
	wantConstantFault(t, "(A.x = 1) = (1 DIV 0 = 1)", impl.ErrPlace, impl.NdName, 1)
}

func TestConstantsOfOtherThings(t *testing.T) {
	wantConstantFault(t, "A.x", impl.ErrPlace, impl.NdName, 1)
	wantConstantFault(t, "1 + A.x", impl.ErrPlace, impl.NdName, 1)
	wantConstantFault(t, "-A.x * 2", impl.ErrPlace, impl.NdName, 1)
	wantConstantFault(t, "ORD(A.h)", impl.ErrPlace, impl.NdName, 1)
	wantConstantFault(t, "A.H(1, \"x\")", impl.ErrPlace, impl.NdCall, 1)
	// Kids come first, whatever stands above them.
	wantConstantFault(t, "A.v[0]", impl.ErrPlace, impl.NdName, 1)
	wantConstantFault(t, "LEN(A.v)", impl.ErrPlace, impl.NdName, 1)
	wantConstantFault(t, "A.H(1 DIV 0, \"x\")", impl.ErrRange, impl.NdBinary, 1)
	wantConstantFault(t, "A.H(A.x, \"x\")", impl.ErrPlace, impl.NdName, 1)
	// The expression is checked ahead of being worked out.
	wantConstantFault(t, "1 DIV 0 + TRUE", impl.ErrType, impl.NdBool, 1)
	wantConstantFault(t, "A.x + yes", impl.ErrType, impl.NdName, 2)
	wantConstantFault(t, "A.x + no", impl.ErrName, impl.NdName, 2)
	wantConstantFault(t, "A.G()", impl.ErrResult, impl.NdCall, 1)
	wantConstantFault(t, "A.F(five)", impl.ErrPlace, impl.NdName, 1)
	wantConstantFault(t, "A.F(A.x)", impl.ErrPlace, impl.NdName, 1)
	wantConstantFault(t, "A.F", impl.ErrType, impl.NdName, 1)
	wantConstantFault(t, "A.v", impl.ErrType, impl.NdName, 1)
	wantConstantFault(t, "A", impl.ErrName, impl.NdName, 1)
	wantConstantFault(t, "A.v[yes]", impl.ErrType, impl.NdName, 2)
	wantConstantFault(t, "~1", impl.ErrType, impl.NdInt, 1)
}
