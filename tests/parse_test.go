package tests

import (
	"reflect"
	"strconv"
	"strings"
	"testing"

	"loop.example/g00168/impl"
)

func wantParsed(t *testing.T, text string, want impl.Node) {
	t.Helper()
	got, code, place := impl.Parse(text)
	if code != impl.OK || place != 0 {
		t.Errorf("Parse(%.200q): code %d at %d", text, code, place)
		return
	}
	if !reflect.DeepEqual(copyTree(got), copyTree(want)) {
		t.Errorf("Parse(%.200q) = %v, want %v", text, got, want)
	}
}

func wantParseFault(t *testing.T, text string, code, place int) {
	t.Helper()
	n, gotCode, gotPlace := impl.Parse(text)
	if gotCode != code || gotPlace != place {
		t.Errorf("Parse(%.300q): code %d at %d, want %d at %d", text, gotCode, gotPlace, code, place)
	}
	if gotCode != impl.OK && !reflect.DeepEqual(n, impl.Node{}) {
		t.Errorf("Parse(%.300q): a code and a tree", text)
	}
}

// wantFaultAtMark has a § at the place where the fault is due.
func wantFaultAtMark(t *testing.T, marked string, code int) {
	t.Helper()
	place := strings.Index(marked, "§")
	if place < 0 {
		t.Fatal("no mark:", marked)
	}
	wantParseFault(t, strings.Replace(marked, "§", "", 1), code, place)
}

func inBody(statements string) string { return "MODULE M; BEGIN " + statements + " END M." }

func inConst(value string) string { return "MODULE M; CONST c = " + value + "; END M." }

func constNode(value impl.Node) impl.Node {
	return namedNode(impl.NdModule, 0, "M", namedNode(impl.NdConst, 0, "c", value), blockNode())
}

func TestParsedModules(t *testing.T) {
	wantParsed(t, "MODULE M; END M.", moduleNode())
	wantParsed(t, "MODULE M;BEGIN END M.", moduleNode())
	wantParsed(t, "(* a *)MODULE\n_x9;\tEND(**)_x9 . \r\n (* b *)", namedNode(impl.NdModule, 0, "_x9", blockNode()))
	wantParsed(t, "MODULE M; IMPORT A; END M.", namedNode(impl.NdModule, 0, "M", namedNode(impl.NdImport, 0, "A"), blockNode()))
	wantParsed(t, "MODULE M; IMPORT A, M, A; END M.",
		namedNode(impl.NdModule, 0, "M", namedNode(impl.NdImport, 0, "A"), namedNode(impl.NdImport, 0, "M"), namedNode(impl.NdImport, 0, "A"), blockNode()))
	wantParsed(t, "MODULE M; CONST END M.", moduleNode())
	wantParsed(t, "MODULE M; VAR END M.", moduleNode())
	wantParsed(t, "MODULE M; CONST VAR BEGIN END M.", moduleNode())
	wantParsed(t, "MODULE M; CONST a = 1; b* = a; END M.",
		namedNode(impl.NdModule, 0, "M", namedNode(impl.NdConst, 0, "a", intNode(1)), namedNode(impl.NdConst, 1, "b", nameNode("a")), blockNode()))
	long := strings.Repeat("m", 40)
	wantParsed(t, "MODULE "+long+"; END "+long+".", namedNode(impl.NdModule, 0, long, blockNode()))
}

func TestParsedVariables(t *testing.T) {
	array := numberNode(impl.NdArray, 100, typeNode(impl.TyBool))
	wantParsed(t, "MODULE M; VAR a, b*, c: INTEGER; d: CHAR; e*, f: ARRAY 100 OF BOOLEAN; g: ARRAY 1 OF CHAR; END M.",
		namedNode(impl.NdModule, 0, "M",
			namedNode(impl.NdVar, 0, "a", typeNode(impl.TyInt)), namedNode(impl.NdVar, 1, "b", typeNode(impl.TyInt)), namedNode(impl.NdVar, 0, "c", typeNode(impl.TyInt)),
			namedNode(impl.NdVar, 0, "d", typeNode(impl.TyChar)),
			namedNode(impl.NdVar, 1, "e", array), namedNode(impl.NdVar, 0, "f", array),
			namedNode(impl.NdVar, 0, "g", numberNode(impl.NdArray, 1, typeNode(impl.TyChar))),
			blockNode()))
}

func TestParsedProcedures(t *testing.T) {
	empty := namedNode(impl.NdProc, 0, "P", node(impl.NdResult), blockNode())
	wantParsed(t, "MODULE M; PROCEDURE P(); END P; END M.", namedNode(impl.NdModule, 0, "M", empty, blockNode()))
	wantParsed(t, "MODULE M; PROCEDURE P(); BEGIN END P; PROCEDURE P(); VAR END P; END M.", namedNode(impl.NdModule, 0, "M", empty, empty, blockNode()))
	for _, behind := range []string{"", ";"} {
		wantParsed(t, "MODULE M; PROCEDURE P*(VAR a, b: INTEGER; c, d: CHAR; VAR e: BOOLEAN"+behind+"): CHAR; VAR x, y*: CHAR; z: ARRAY 2 OF CHAR; BEGIN RETURN x END P; BEGIN P() END M.",
			namedNode(impl.NdModule, 0, "M",
				namedNode(impl.NdProc, 1, "P",
					namedNode(impl.NdParam, 1, "a", typeNode(impl.TyInt)), namedNode(impl.NdParam, 1, "b", typeNode(impl.TyInt)),
					namedNode(impl.NdParam, 0, "c", typeNode(impl.TyChar)), namedNode(impl.NdParam, 0, "d", typeNode(impl.TyChar)),
					namedNode(impl.NdParam, 1, "e", typeNode(impl.TyBool)),
					numberNode(impl.NdResult, impl.TyChar),
					namedNode(impl.NdVar, 0, "x", typeNode(impl.TyChar)), namedNode(impl.NdVar, 1, "y", typeNode(impl.TyChar)),
					namedNode(impl.NdVar, 0, "z", numberNode(impl.NdArray, 2, typeNode(impl.TyChar))),
					blockNode(node(impl.NdReturn, nameNode("x")))),
				blockNode(namedNode(impl.NdCall, 0, "P"))))
	}
}

func TestParsedStatements(t *testing.T) {
	x, one := nameNode("x"), intNode(1)
	item := node(impl.NdIndex, ofNode(impl.NdName, "A", "v"), one)
	for _, c := range []struct {
		text string
		want []impl.Node
	}{
		{"", nil}, {";", nil}, {";;;", nil},
		{"x := 1", []impl.Node{node(impl.NdAssign, x, one)}},
		{";x := 1;;A.v[1] := x;", []impl.Node{node(impl.NdAssign, x, one), node(impl.NdAssign, item, x)}},
		{"P()", []impl.Node{namedNode(impl.NdCall, 0, "P")}},
		{"P(1); A.P(1, x); P(1,); P((1), x[1],)", []impl.Node{
			namedNode(impl.NdCall, 0, "P", one), ofNode(impl.NdCall, "A", "P", one, x), namedNode(impl.NdCall, 0, "P", one),
			namedNode(impl.NdCall, 0, "P", one, node(impl.NdIndex, x, one))}},
		{"RETURN", []impl.Node{node(impl.NdReturn)}},
		{"RETURN; RETURN 1; RETURN (1)", []impl.Node{node(impl.NdReturn), node(impl.NdReturn, one), node(impl.NdReturn, one)}},
		{"WRITE(x); READ(x); READ(A.v[1])", []impl.Node{writeNode(x), node(impl.NdRead, x), node(impl.NdRead, item)}},
		{"WHILE x DO END; WHILE 1 DO x := 1; RETURN END", []impl.Node{
			node(impl.NdWhile, x, blockNode()), node(impl.NdWhile, one, blockNode(node(impl.NdAssign, x, one), node(impl.NdReturn)))}},
		{"IF x THEN END", []impl.Node{node(impl.NdIf, x, blockNode())}},
		{"IF x THEN ELSE END", []impl.Node{node(impl.NdIf, x, blockNode(), blockNode())}},
		{"IF x THEN RETURN ELSE RETURN END", []impl.Node{node(impl.NdIf, x, blockNode(node(impl.NdReturn)), blockNode(node(impl.NdReturn)))}},
		{"IF x THEN ELSIF 1 THEN END", []impl.Node{node(impl.NdIf, x, blockNode(), blockNode(node(impl.NdIf, one, blockNode())))}},
		{"IF x THEN RETURN ELSIF 1 THEN RETURN ELSE P() END; P()", []impl.Node{
			node(impl.NdIf, x, blockNode(node(impl.NdReturn)), blockNode(node(impl.NdIf, one, blockNode(node(impl.NdReturn)), blockNode(namedNode(impl.NdCall, 0, "P"))))),
			namedNode(impl.NdCall, 0, "P")}},
	} {
		wantParsed(t, inBody(c.text), moduleNode(c.want...))
	}
}

// An ELSIF within ELSIFs, and an IF of its own within one of them.
func TestParsedElsifs(t *testing.T) {
	call := func(name string) impl.Node { return blockNode(namedNode(impl.NdCall, 0, name)) }
	inner := node(impl.NdIf, nameNode("d"), call("D"), blockNode(node(impl.NdIf, nameNode("e"), call("E"))))
	last := node(impl.NdIf, nameNode("c"), blockNode(inner), call("F"))
	second := node(impl.NdIf, nameNode("b"), call("B"), blockNode(last))
	wantParsed(t, inBody("IF a THEN A() ELSIF b THEN B() ELSIF c THEN IF d THEN D() ELSIF e THEN E() END ELSE F() END"),
		moduleNode(node(impl.NdIf, nameNode("a"), call("A"), blockNode(second))))
	written := inBody("IF a THEN A() ELSE IF b THEN B() ELSE IF c THEN IF d THEN D() ELSE IF e THEN E() END END ELSE F() END END END")
	wantParsed(t, written, moduleNode(node(impl.NdIf, nameNode("a"), call("A"), blockNode(second))))
}

func TestParsedExpressions(t *testing.T) {
	a, b, c := nameNode("a"), nameNode("b"), nameNode("c")
	for _, e := range []struct {
		text string
		want impl.Node
	}{
		{"0", intNode(0)}, {"999999999999999999", intNode(999999999999999999)},
		{"\"a\"", numberNode(impl.NdChar, 'a')}, {"0AX", numberNode(impl.NdChar, 10)}, {"00X", numberNode(impl.NdChar, 0)}, {"10FFFFX", numberNode(impl.NdChar, 0x10FFFF)},
		{"TRUE", numberNode(impl.NdBool, 1)}, {"FALSE", numberNode(impl.NdBool, 0)},
		{"a", a}, {"A.a", ofNode(impl.NdName, "A", "a")}, {"(a)", a}, {"((a))", a},
		{"a[1]", node(impl.NdIndex, a, intNode(1))}, {"A.a[b[c]]", node(impl.NdIndex, ofNode(impl.NdName, "A", "a"), node(impl.NdIndex, b, c))},
		{"a()", namedNode(impl.NdCall, 0, "a")}, {"A.a(b, c, )", ofNode(impl.NdCall, "A", "a", b, c)},
		{"ORD(a)", node(impl.NdOrd, a)}, {"CHR(a + b)", node(impl.NdChr, binaryNode("+", a, b))},
		{"LEN(a)", node(impl.NdLen, a)}, {"LEN(A.a)", node(impl.NdLen, ofNode(impl.NdName, "A", "a"))},
		{"-a", unaryNode("-", a)}, {"~a", unaryNode("~", a)}, {"--~-a", unaryNode("-", unaryNode("-", unaryNode("~", unaryNode("-", a))))},
		{"-a + b", binaryNode("+", unaryNode("-", a), b)}, {"-a * b", binaryNode("*", unaryNode("-", a), b)}, {"a * -b", binaryNode("*", a, unaryNode("-", b))},
		{"-(a + b)", unaryNode("-", binaryNode("+", a, b))}, {"~a = b", binaryNode("=", unaryNode("~", a), b)}, {"-a[b]", unaryNode("-", node(impl.NdIndex, a, b))},
		{"a - b - c", binaryNode("-", binaryNode("-", a, b), c)}, {"a - (b - c)", binaryNode("-", a, binaryNode("-", b, c))},
		{"a DIV b MOD c", binaryNode("MOD", binaryNode("DIV", a, b), c)}, {"a * (b & c)", binaryNode("*", a, binaryNode("&", b, c))},
		{"a + b * c", binaryNode("+", a, binaryNode("*", b, c))}, {"a * b + c", binaryNode("+", binaryNode("*", a, b), c)}, {"(a + b) * c", binaryNode("*", binaryNode("+", a, b), c)},
		{"a OR b & c", binaryNode("OR", a, binaryNode("&", b, c))}, {"a & b OR c", binaryNode("OR", binaryNode("&", a, b), c)},
		{"a = b + c", binaryNode("=", a, binaryNode("+", b, c))}, {"a + b < c", binaryNode("<", binaryNode("+", a, b), c)},
		{"a < (b < c)", binaryNode("<", a, binaryNode("<", b, c))}, {"(a < b) < c", binaryNode("<", binaryNode("<", a, b), c)},
		{"a OR (b = c)", binaryNode("OR", a, binaryNode("=", b, c))},
	} {
		wantParsed(t, inConst(e.text), constNode(e.want))
		wantParsed(t, inBody("WRITE("+e.text+")"), moduleNode(writeNode(e.want)))
	}
	for _, sign := range strings.Fields("= # < <= > >= + - OR * DIV MOD &") {
		wantParsed(t, inConst("a "+sign+" b"), constNode(binaryNode(sign, a, b)))
	}
}

func TestWhichTokenOfAModuleIsAtFault(t *testing.T) {
	for _, marked := range []string{
		"§", "§;", "§x", "(* a *) §", "MODULE§", "MODULE §;", "MODULE §END; END M.", "MODULE §1; END M.", "MODULE M §END M.", "MODULE M§*; END M.", "MODULE M; §", "MODULE M; §x",
		"MODULE M; END§", "MODULE M; END M§", "MODULE M; END M §;", "MODULE M; END M §M.", "MODULE M; END M. §.", "MODULE M; END M.\n§END", "MODULE M; END §IF.", "MODULE M; END §.", "MODULE M; BEGIN §BEGIN END M.",
		"MODULE M; IMPORT §; END M.", "MODULE M; IMPORT A §B; END M.", "MODULE M; IMPORT A, §; END M.", "MODULE M; IMPORT A§*; END M.", "MODULE M; IMPORT A; §IMPORT B; END M.", "MODULE M; IMPORT A§.b; END M.",
		"MODULE M; CONST a §1; END M.", "MODULE M; CONST a§: INTEGER; END M.", "MODULE M; CONST a = 1 §END M.", "MODULE M; CONST a*§* = 1; END M.", "MODULE M; CONST a§, b = 1; END M.",
		"MODULE M; CONST §* = 1; END M.", "MODULE M; CONST a = \"é\" §x; END M.", "MODULE M; CONST a = 1; §CONST b = 1; END M.", "MODULE M; CONST §; END M.", "MODULE M; CONST a = 1; §IMPORT A; END M.",
		"MODULE M; VAR §; END M.", "MODULE M; VAR a: INTEGER; §CONST b = 1; END M.", "MODULE M; VAR a: INTEGER; §VAR b: CHAR; END M.",
		"MODULE M; VAR a, §: INTEGER; END M.", "MODULE M; VAR a §INTEGER; END M.", "MODULE M; VAR a*§*: INTEGER; END M.", "MODULE M; VAR a: INTEGER§*; END M.",
		"MODULE M; VAR a: §x; END M.", "MODULE M; VAR a: §; END M.", "MODULE M; VAR a: §TRUE; END M.", "MODULE M; VAR a: INTEGER §END M.", "MODULE M; VAR a: INTEGER§, b: CHAR; END M.",
		"MODULE M; VAR a: ARRAY §x OF CHAR; END M.", "MODULE M; VAR a: ARRAY §OF CHAR; END M.", "MODULE M; VAR a: ARRAY 3 §CHAR; END M.", "MODULE M; VAR a: ARRAY 3 OF §ARRAY 3 OF CHAR; END M.",
		"MODULE M; VAR a: ARRAY §-1 OF CHAR; END M.", "MODULE M; VAR a: ARRAY §\"a\" OF CHAR; END M.", "MODULE M; VAR a: ARRAY §0X OF CHAR; END M.", "MODULE M; VAR a: ARRAY 3§, 4 OF CHAR; END M.",
	} {
		wantFaultAtMark(t, marked, impl.ErrSyntax)
	}
}

func TestWhichTokenOfAProcedureIsAtFault(t *testing.T) {
	for _, marked := range []string{
		"PROCEDURE §(); END P;", "PROCEDURE P§; END P;", "PROCEDURE P*§*(); END P;", "PROCEDURE P(§;); END P;", "PROCEDURE P(§,); END P;", "PROCEDURE P(a: CHAR;§;); END P;",
		"PROCEDURE P(a: CHAR§,); END P;", "PROCEDURE P(a, §: CHAR); END P;", "PROCEDURE P(a§*: CHAR); END P;", "PROCEDURE P(a§); END P;", "PROCEDURE P(a: CHAR §b: CHAR); END P;",
		"PROCEDURE P(a: §ARRAY 3 OF CHAR); END P;", "PROCEDURE P(a: §); END P;", "PROCEDURE P(VAR §); END P;", "PROCEDURE P(VAR §VAR a: CHAR); END P;", "PROCEDURE P(a, §VAR b: CHAR); END P;",
		"PROCEDURE P(a: CHAR; §1); END P;", "PROCEDURE P(): §; END P;", "PROCEDURE P(): §ARRAY 3 OF CHAR; END P;", "PROCEDURE P() §END P;", "PROCEDURE P() §CHAR; END P;",
		"PROCEDURE P(); END P §END M.", "PROCEDURE P(); END P§.", "PROCEDURE P(); END P§*;", "PROCEDURE P(); §CONST a = 1; END P;", "PROCEDURE P(); §PROCEDURE Q(); END Q; END P;",
		"PROCEDURE P(); END P; §VAR a: CHAR;", "PROCEDURE P(); END §;", "PROCEDURE P(); BEGIN §ELSE END P;", "PROCEDURE P(); VAR a: CHAR; §VAR b: CHAR; END P;", "PROCEDURE P(); VAR a: CHAR §END P;",
	} {
		wantFaultAtMark(t, "MODULE M; "+marked+" END M.", impl.ErrSyntax)
	}
}

func TestWhichTokenOfAStatementIsAtFault(t *testing.T) {
	for _, marked := range []string{
		"x §END M.", "x§; x := 1", "x §= 1", "x.§; y := 1", "x.y§.z := 1", "x.§IF := 1", "x.y §y()", "x[§] := 1", "x[1§, 2] := 1", "x[1]§[2] := 1", "x[1]§(2)", "x[1]§.y := 1", "x(1)§[2] := 1", "x() §:= 1", "x(1)§.y()",
		"x := §;", "x := 1 §y := 2", "x := 1 §IF y THEN END", "x := 1§)", "x §: = 1", "x := §IF", "P(§,)", "P(1,§,)", "P(1§;2)", "P(1 §2)", "P(§READ)", "§(x)", "§1", "§-x := 1", "§TRUE", "§ORD(x)", "§\"a\"", "P()§()",
		"IF §THEN END", "IF x §DO END", "IF x§; THEN END", "IF x THEN ELSE §ELSE END", "IF x THEN ELSE §ELSIF y THEN END", "IF x THEN ELSIF §THEN END", "IF x THEN ELSIF y §ELSE END", "IF x THEN ELSIF y THEN ELSE §ELSIF z THEN END",
		"IF x THEN x := 1 §x := 2 END", "IF x THEN END §x", "IF x THEN END §IF", "IF x THEN x := 1 §. END", "IF x THEN END§.", "IF x THEN §THEN END", "IF x THEN END; §ELSE", "IF x THEN ELSE §THEN END", "IF x = 1 §= 2 THEN END",
		"WHILE §DO END", "WHILE x §THEN END", "WHILE x DO §ELSE END", "WHILE x DO §ELSIF END", "WHILE x DO END §WHILE", "WHILE x DO END §M", "WHILE x DO §DO END", "IF x THEN WHILE y DO §ELSE END END",
		"§DO", "§ELSE", "§ELSIF x THEN", "§THEN", "RETURN §)", "RETURN §THEN", "RETURN §:= 1", "RETURN §.", "RETURN 1 §2", "RETURN §IF x THEN END", "RETURN §RETURN", "IF x THEN RETURN §THEN END", "WHILE x DO RETURN §ELSE END",
		"WRITE §x", "WRITE(§)", "WRITE(x§, 1)", "WRITE(x§,)", "WRITE§;", "WRITE§.x(1)", "READ §x", "READ(§)", "READ(§1)", "READ(§(x))", "READ(x§())", "READ(x§, y)", "READ(x §+ 1)", "READ(x.§[1])", "READ(x[1]§[1])", "READ(§-x)",
		"§CONST a = 1", "§VAR a: CHAR", "§BEGIN", "x := 1; §BEGIN", "§.", "§,", "§:=", "§PROCEDURE P(); END P", "§IMPORT A", "x := 1§,", "x := 1 §: y",
	} {
		wantFaultAtMark(t, inBody(marked), impl.ErrSyntax)
	}
	for _, stopped := range []string{
		"x", "x.", "x.y", "x[", "x[1", "x[1]", "x :=", "x := 1 +", "x := (1", "x := a.", "x := a[", "x := -", "x := ORD", "x := ORD(", "x := LEN(a.", "P(", "P(1", "P(1,", "P(1)", "x := P(1,",
		"IF", "IF x", "IF x THEN", "IF x THEN ELSE", "IF x THEN ELSIF", "IF x THEN ELSIF y", "WHILE", "WHILE x", "WHILE x DO", "RETURN", "RETURN 1", "RETURN -", "WRITE", "WRITE(", "WRITE(1", "READ", "READ(", "READ(x", ";",
	} {
		wantFaultAtMark(t, "MODULE M; BEGIN "+stopped+"§", impl.ErrSyntax)
		wantFaultAtMark(t, "MODULE M; BEGIN "+stopped+"\n(* a *) §", impl.ErrSyntax)
	}
}

func TestWhichTokenOfAnExpressionIsAtFault(t *testing.T) {
	for _, marked := range []string{
		"§)", "(§)", "(1§, 2)", "1 + §* 2", "§+1", "1 §~2", "1 §TRUE", "\"a\"§\"b\"", "1 < 2 §< 3", "1 = 2 §# 3", "a >= b §<= c", "P(1 = 2 §= 3)", "1 + 2 < 3 + 4 §> 5", "(1 < 2) < 3 §< 4", "1 = -§= 2", "1 OR §OR 2", "§OR 1", "§DIV 2", "~§& 1", "1 §:= 2",
		"§IF", "§INTEGER", "§WRITE(1)", "A.§(1)", "A.b§.c", "A.§1", "a[1§)", "a[§]", "a[1]§[2]", "a()§[1]", "a()§.b", "a()§()", "(a)§[1]", "(a)§.b", "1§.2", "1§[2]", "TRUE§(1)", "a §b", "(1 §2)", "-§)", "ORD §a", "ORD(§)", "ORD(a§, b)", "ORD(a)§[1]", "CHR(a§,)", "CHR§[a]",
		"LEN(§1)", "LEN(§(a))", "LEN(a§[1])", "LEN(a§())", "LEN(a.§)", "LEN(a.b§.c)", "LEN(§)", "LEN §a", "LEN(§-a)", "LEN(a §+ 1)", "LEN §+ 1", "f(§;)", "f(1 §]", "f(1,§,)", "f(§,)", "f(§,1)", "f(1§:2)",
	} {
		wantFaultAtMark(t, inConst(marked), impl.ErrSyntax)
		wantFaultAtMark(t, inBody("x := "+marked), impl.ErrSyntax)
	}
}

func TestNamesBehindAnEnd(t *testing.T) {
	for _, marked := range []string{
		"MODULE M; END §N.", "MODULE M; END §m.", "MODULE M; END §MM.", "MODULE M; END §N", "MODULE M; END §N; x", "MODULE M; END §END1.", "MODULE M; END §N. x y", "MODULE M; BEGIN IF x THEN x := 1 END END §x.",
		"MODULE M; PROCEDURE P(); END §Q; END M.", "MODULE M; PROCEDURE P(); END §M; END P.", "MODULE M; PROCEDURE P(); END P; END §P.", "MODULE M; PROCEDURE P(); END P; PROCEDURE Q(); END §P; END ;", "MODULE M; PROCEDURE P*(); BEGIN END §p",
	} {
		wantFaultAtMark(t, marked, impl.ErrName)
	}
	wantFaultAtMark(t, "MODULE M; §x END N.", impl.ErrSyntax)
	wantFaultAtMark(t, "MODULE M; BEGIN IF x THEN END §M END M.", impl.ErrSyntax)
	wantFaultAtMark(t, "MODULE M; VAR a: ARRAY §0 OF CHAR; END N.", impl.ErrRange)
}

func TestLengthsOfArrays(t *testing.T) {
	for _, length := range []int{1, 2, 50, 99, 100} {
		wantParsed(t, "MODULE M; VAR a: ARRAY "+strconv.Itoa(length)+" OF CHAR; END M.",
			namedNode(impl.NdModule, 0, "M", namedNode(impl.NdVar, 0, "a", numberNode(impl.NdArray, length, typeNode(impl.TyChar))), blockNode()))
	}
	for _, length := range []string{"0", "101", "1000", "4294967297", "999999999999999999"} {
		for _, behind := range []string{" OF CHAR; END M.", " OF CHAR; END N.", " x", ""} {
			wantFaultAtMark(t, "MODULE M; VAR a: ARRAY §"+length+behind, impl.ErrRange)
			wantFaultAtMark(t, "MODULE M; PROCEDURE P(); VAR a*, b: CHAR; c, d: ARRAY §"+length+behind, impl.ErrRange)
		}
	}
	wantFaultAtMark(t, "MODULE M; VAR a: ARRAY §007 OF CHAR; END M.", impl.ErrSyntax)
}

// opener is what counts as open, the text ahead of what stands within it and behind; the mark is where the fault is told if it is one too many.
type opener struct{ ahead, behind string }

var valueOpeners = []opener{
	{"§(", ")"}, {"§-", ""}, {"§~", ""}, {"a§[", "]"}, {"A.a§[", "]"}, {"P§(", ")"}, {"P§(1, ", ")"}, {"A.P§(", ",)"}, {"1 + §(", ")"}, {"ORD(§", ")"}, {"CHR (§", ")"},
}

func unmarked(text string) string { return strings.ReplaceAll(text, "§", "") }

// opened is the openers one within the other; the mark of the last one stays.
func opened(inner string, list ...opener) string {
	text := inner
	for i := len(list) - 1; i >= 0; i-- {
		ahead := list[i].ahead
		if i < len(list)-1 {
			ahead = unmarked(ahead)
		}
		text = ahead + text + list[i].behind
	}
	return text
}

func times(many int, list ...opener) []opener {
	var all []opener
	for i := range many {
		all = append(all, list[i%len(list)])
	}
	return all
}

func wantOpen(t *testing.T, text string) {
	t.Helper()
	if n, code, place := impl.Parse(unmarked(text)); code != impl.OK || !impl.TreeOK(n) {
		t.Errorf("Parse(%q): code %d at %d", unmarked(text), code, place)
	}
}

func TestHowManyMayBeOpen(t *testing.T) {
	for _, inner := range []string{"1", "a", "TRUE", "0AX", "A.b"} {
		for _, o := range valueOpeners {
			wantOpen(t, inConst(opened(inner, times(20, o)...)))
			wantOpen(t, inBody("WRITE("+opened(inner, times(20, o)...)+")"))
			wantFaultAtMark(t, inConst(opened(inner, times(21, o)...)), impl.ErrDeep)
			wantFaultAtMark(t, inBody("x := "+opened(inner, times(21, o)...)), impl.ErrDeep)
			wantFaultAtMark(t, inBody("WRITE("+opened(inner, times(21, o)...)+")"), impl.ErrDeep)
		}
	}
	for _, o := range valueOpeners {
		for _, last := range append(valueOpeners, opener{"LEN(§", ")"}, opener{"LEN(§A.", ")"}) {
			if o.behind == "" && strings.HasPrefix(last.ahead, "1") {
				continue // a sign is open to the end of its operand, the 1
			}
			wantOpen(t, inConst(opened("a", append(times(19, o), last)...)))
			wantFaultAtMark(t, inConst(opened("a", append(times(20, o), last)...)), impl.ErrDeep)
		}
	}
	wantOpen(t, inConst(opened("a", times(20, valueOpeners...)...)))
	wantFaultAtMark(t, inConst(opened("a", times(21, valueOpeners...)...)), impl.ErrDeep)
}

// The fault is met ahead of what follows, be it right or not.
func TestTooDeepAheadOfWhatFollows(t *testing.T) {
	for _, last := range append(valueOpeners, opener{"LEN(§", ")"}) {
		text := "MODULE M; CONST c = " + opened("", append(times(20, valueOpeners[0]), opener{last.ahead, ""})...)
		text = strings.TrimRight(text, ")")
		wantFaultAtMark(t, text, impl.ErrDeep)
		wantFaultAtMark(t, text+"; END", impl.ErrDeep)
		wantFaultAtMark(t, text+")", impl.ErrDeep)
	}
	wantFaultAtMark(t, inConst(opened("ORD §1", times(20, opener{"(", ")"})...)), impl.ErrSyntax)
	wantFaultAtMark(t, inConst(opened("LEN§", times(20, opener{"(", ")"})...)), impl.ErrSyntax)
	wantFaultAtMark(t, inConst(opened("§)", times(20, opener{"(", ")"})...)), impl.ErrSyntax)
}

func TestHowManyStatementsMayBeOpen(t *testing.T) {
	openers := []opener{{"§IF x THEN ", " END"}, {"§WHILE x DO ", " END"}, {"RETURN; §IF x THEN ELSE ", " END"}, {"x := 1; §WHILE x DO ", " END; RETURN"}}
	for _, o := range openers {
		wantOpen(t, inBody(opened("", times(19, o)...)))
		wantParseFault(t, inBody(unmarked(opened("", times(20, o)...))), impl.ErrSize, 0)
		wantFaultAtMark(t, inBody(opened("", times(21, o)...)), impl.ErrDeep)
		for _, value := range valueOpeners {
			plain := opener{unmarked(o.ahead), o.behind}
			wantOpen(t, inBody(opened("RETURN "+opened("a", times(12, value)...), times(8, plain)...)))
			wantFaultAtMark(t, inBody(opened("RETURN "+opened("a", times(13, value)...), times(8, plain)...)), impl.ErrDeep)
		}
	}
	wantFaultAtMark(t, inBody(opened("", times(21, openers...)...)), impl.ErrDeep)
}

func TestElsifsAreOpenToTheEnd(t *testing.T) {
	chain := func(elsifs int, tail string) string {
		return "IF x THEN " + strings.Repeat("ELSIF x THEN ", elsifs) + tail
	}
	wantOpen(t, inBody(chain(18, "END")))
	wantParseFault(t, inBody(chain(19, "END")), impl.ErrSize, 0)
	wantFaultAtMark(t, inBody(chain(19, "§ELSIF x THEN END")), impl.ErrDeep)
	wantFaultAtMark(t, inBody(chain(19, "§IF x THEN END END")), impl.ErrDeep)
	wantFaultAtMark(t, inBody(chain(19, "ELSE §WHILE x DO END END")), impl.ErrDeep)
	wantFaultAtMark(t, inBody("WHILE x DO "+chain(18, "§ELSIF")), impl.ErrDeep)
	wantFaultAtMark(t, inBody("IF a THEN "+chain(18, "§ELSIF x THEN END END")), impl.ErrDeep)
	wantOpen(t, inBody(chain(4, "RETURN "+strings.Repeat("(", 15)+"1"+strings.Repeat(")", 15)+" ELSE END")))
	wantFaultAtMark(t, inBody(chain(4, "RETURN "+strings.Repeat("(", 15)+"§(1"+strings.Repeat(")", 16)+" END")), impl.ErrDeep)
	wantFaultAtMark(t, inBody(chain(4, "ELSIF "+strings.Repeat("(", 14)+"§(1"+strings.Repeat(")", 15)+" THEN END")), impl.ErrDeep)
	wantFaultAtMark(t, inBody(chain(4, "ELSE x := "+strings.Repeat("(", 15)+"§(1"+strings.Repeat(")", 16)+" END")), impl.ErrDeep)
	for _, ahead := range []string{chain(3, "END"), chain(10, "ELSE RETURN END"), "WHILE x DO " + chain(5, "END") + " END", strings.Repeat("IF x THEN ELSIF y THEN END; ", 25) + "RETURN"} {
		deepest := "; RETURN " + strings.Repeat("(", 20) + "1" + strings.Repeat(")", 20)
		wantOpen(t, inBody(ahead+deepest))
		wantFaultAtMark(t, inBody(ahead+"; RETURN "+strings.Repeat("(", 20)+"§(1"+strings.Repeat(")", 21)), impl.ErrDeep)
	}
}

// What is closed counts no more; what the document does not name never counts.
func TestWhatIsNotOpen(t *testing.T) {
	for _, o := range append(valueOpeners, opener{"LEN(", ")"}) {
		closed := strings.Repeat(unmarked(o.ahead)+"a"+o.behind+", ", 25)
		wantOpen(t, inConst(opened("P("+closed+")", times(18, opener{"(", ")"})...)))
	}
	for _, closed := range []string{"IF x THEN END; ", "WHILE x DO END; ", "P(1); ", "a[1] := 2; ", "RETURN -1; ", "READ(a[1]); ", "WRITE(1); "} {
		wantOpen(t, inBody("WHILE x DO "+strings.Repeat(closed, 25)+"RETURN "+strings.Repeat("(", 19)+"1"+strings.Repeat(")", 19)+" END"))
		wantFaultAtMark(t, inBody("WHILE x DO "+strings.Repeat(closed, 25)+"RETURN "+strings.Repeat("(", 19)+"§(1"), impl.ErrDeep)
	}
	nineteen := func(inner string) string { return inConst(strings.Repeat("(", 19) + inner + strings.Repeat(")", 19)) }
	for _, inner := range []string{"-1 + (1)", "~a & -b", "-a = ORD(b)", "-1 * a[1]", "-1 - LEN(a)", "(1) + (2) < -3"} {
		wantOpen(t, nineteen(inner))
	}
	for _, inner := range []string{"-§(1)", "~§-1", "-a§[1]", "-f§(1)", "-ORD(§1)", "-LEN(§a)", "1 + -§-1", "a[§-1]", "f(1, §-1)", "(1 + §(2))"} {
		wantFaultAtMark(t, nineteen(inner), impl.ErrDeep)
	}
	wantOpen(t, inBody("READ(a["+strings.Repeat("(", 19)+"1"+strings.Repeat(")", 19)+"])"))
	wantFaultAtMark(t, inBody("READ(a["+strings.Repeat("(", 19)+"§(1"), impl.ErrDeep)
	wantFaultAtMark(t, inBody("P("+strings.Repeat("-", 19)+"§-1)"), impl.ErrDeep)
	wantFaultAtMark(t, inBody("a["+strings.Repeat("-", 19)+"§-1] := 2"), impl.ErrDeep)
	wantFaultAtMark(t, inBody("IF "+strings.Repeat("-", 19)+"§-1 THEN END"), impl.ErrDeep)
	wantFaultAtMark(t, inBody("WHILE "+strings.Repeat("-", 19)+"§-1 DO END"), impl.ErrDeep)
}

func TestTexts(t *testing.T) {
	module := "MODULE M; END M."
	fill := strings.Repeat(" ", impl.MaxSource-len(module))
	wantParsed(t, module+fill, moduleNode())
	wantParsed(t, fill+module, moduleNode())
	wantParseFault(t, module+fill+" ", impl.ErrSize, 0)
	wantParseFault(t, strings.Repeat("?", impl.MaxText), impl.ErrSize, 0)
	wantParseFault(t, strings.Repeat("?", impl.MaxText+1), impl.ErrLong, 0)
	wantParseFault(t, module+strings.Repeat(" ", 1<<20), impl.ErrLong, 0)
	wantParseFault(t, strings.Repeat(" ", impl.MaxSource), impl.ErrSyntax, impl.MaxSource)
	wantParseFault(t, "x y ?", impl.ErrSyntax, 4)
	wantParseFault(t, "MODULE M; END N. 007", impl.ErrSyntax, 17)
	wantParseFault(t, "MODULE M; END N. (* a", impl.ErrSyntax, 17)
	wantParseFault(t, strings.Repeat(";", impl.MaxTokens), impl.ErrSyntax, 0)
	wantParseFault(t, strings.Repeat(";", impl.MaxTokens+1), impl.ErrMany, impl.MaxTokens)
	full := "MODULE M; BEGIN " + strings.Repeat(";", impl.MaxTokens-7) + "END M."
	wantParsed(t, full, moduleNode())
	wantParseFault(t, full+" .", impl.ErrMany, len(full)+1)
}

// Trees that are not right come last of all.
func TestTextsOfTreesTooLarge(t *testing.T) {
	statements := strings.Repeat("a:=1;", 232)
	for _, c := range []struct {
		behind string
		nodes  int
	}{{"RETURN", 699}, {"RETURN;RETURN", 700}} {
		n, code, _ := impl.Parse(inBody(statements + c.behind))
		if code != impl.OK || impl.Size(n) != c.nodes {
			t.Errorf("a tree of %d nodes: code %d, Size %d", c.nodes, code, impl.Size(n))
		}
	}
	wantParseFault(t, inBody(statements+"RETURN;RETURN;RETURN"), impl.ErrSize, 0)
	wantParseFault(t, inBody(statements+"a := 1"), impl.ErrSize, 0)
	wantFaultAtMark(t, "MODULE M; BEGIN "+statements+"a := 1 END §N.", impl.ErrName)
	wantFaultAtMark(t, "MODULE M; BEGIN "+statements+"a := 1 END M. §x", impl.ErrSyntax)
	if n, code, _ := impl.Parse(inConst("1" + strings.Repeat("+1", 37))); code != impl.OK || depth(n) != 40 {
		t.Error("a tree 40 deep: code", code)
	}
	wantParseFault(t, inConst("1"+strings.Repeat("+1", 38)), impl.ErrSize, 0)
	wantParseFault(t, inConst("1"+strings.Repeat("*1", 500)), impl.ErrSize, 0)
	wantFaultAtMark(t, inConst("1"+strings.Repeat("+1", 38)+"§)"), impl.ErrSyntax)
}
