package tests

import (
	"strconv"
	"strings"
	"testing"

	"loop.example/g00168/impl"
)

// importA exports something of each Kind and type.
func importA() impl.Interface {
	return impl.Interface{Module: "A", Items: []impl.Item{
		{Kind: impl.ItConst, Type: impl.TyInt, Value: -9, Name: "k"},
		{Kind: impl.ItConst, Type: impl.TyBool, Value: 1, Name: "t"},
		{Kind: impl.ItConst, Type: impl.TyChar, Value: 0x10FFFF, Name: "c"},
		{Kind: impl.ItVar, Type: impl.TyInt, Name: "x"},
		{Kind: impl.ItVar, Type: impl.TyBool, Name: "b"},
		{Kind: impl.ItVar, Type: impl.TyChar, Name: "h"},
		{Kind: impl.ItVar, Type: impl.TyChar, Length: 3, Name: "v"},
		{Kind: impl.ItVar, Type: impl.TyInt, Length: 1, Name: "w"},
		{Kind: impl.ItProc, Type: impl.TyInt, Name: "F", Params: []impl.Param{{Type: impl.TyInt, ByVar: true}}},
		{Kind: impl.ItProc, Name: "G"},
		{Kind: impl.ItProc, Type: impl.TyBool, Name: "H", Params: []impl.Param{{Type: impl.TyInt}, {Type: impl.TyChar}}},
		{Kind: impl.ItProc, Name: "S", Params: []impl.Param{{Type: impl.TyChar, ByVar: true}, {Type: impl.TyBool}}},
	}}
}

func someImports() []impl.Interface {
	return []impl.Interface{{Module: "Other"}, importA(), {Module: "B"}}
}

func treeOf(t *testing.T, text string) impl.Node {
	t.Helper()
	n, code, place := impl.Parse(text)
	if code != impl.OK {
		t.Fatalf("Parse(%.300q): code %d at %d", text, code, place)
	}
	return n
}

// nthPlace is the number of the nth node of that Kind, from the last kid of the module that is of the Kind within on.
func nthPlace(t *testing.T, tree impl.Node, within, kind, nth int) int {
	t.Helper()
	start := 0
	place := 1
	for _, kid := range tree.Kids {
		if kid.Kind == within {
			start = place
		}
		place += count(kid)
	}
	at, found := -1, -1
	eachNode(&tree, func(n *impl.Node) {
		at++
		if at >= start && n.Kind == kind {
			nth--
			if nth == 0 {
				found = at
			}
		}
	})
	if found < 0 {
		t.Fatal("no such node:", kind)
	}
	return found
}

func wantChecked(t *testing.T, text string) {
	t.Helper()
	if code, place := impl.Check(treeOf(t, text), someImports()); code != impl.OK || place != 0 {
		t.Errorf("Check(%.900q): code %d at %d", text, code, place)
	}
}

func wantCheckFault(t *testing.T, text string, code, within, kind, nth int) {
	t.Helper()
	tree := treeOf(t, text)
	place := nthPlace(t, tree, within, kind, nth)
	gotCode, gotPlace := impl.Check(tree, someImports())
	if gotCode != code || gotPlace != place {
		t.Errorf("Check(%.900q): code %d at %d, want %d at %d", text, gotCode, gotPlace, code, place)
	}
	if x, faceCode := impl.InterfaceOf(tree, someImports()); faceCode != code || x.Module != "" || x.Items != nil {
		t.Errorf("InterfaceOf(%.900q): code %d, want %d; %v", text, faceCode, code, x)
	}
}

// wantModuleFault has the nth node of the Kind in the whole module at fault.
func wantModuleFault(t *testing.T, text string, code, kind, nth int) {
	t.Helper()
	wantCheckFault(t, "MODULE M; "+text+" END M.", code, 0, kind, nth)
}

func wantModule(t *testing.T, text string) {
	t.Helper()
	wantChecked(t, "MODULE M; "+text+" END M.")
}

const givenAhead = "IMPORT A, B; CONST k = 5; kb = TRUE; kc = \"c\"; " +
	"VAR i, j: INTEGER; b: BOOLEAN; c: CHAR; v: ARRAY 3 OF INTEGER; w: ARRAY 2 OF CHAR; " +
	"PROCEDURE P(); END P; PROCEDURE Q(a: INTEGER; VAR d: CHAR): BOOLEAN; BEGIN RETURN TRUE END Q; PROCEDURE R(VAR a: INTEGER); END R; PROCEDURE F(): INTEGER; BEGIN RETURN 1 END F;"

func withGiven(statements string) string {
	return "MODULE M; " + givenAhead + " BEGIN " + statements + " END M."
}

func wantBody(t *testing.T, statements string) {
	t.Helper()
	wantChecked(t, withGiven(statements))
}

// wantBodyFault has the nth node of the Kind in the module's body at fault.
func wantBodyFault(t *testing.T, statements string, code, kind, nth int) {
	t.Helper()
	wantCheckFault(t, withGiven(statements), code, impl.NdBlock, kind, nth)
}

func TestModulesThatCheck(t *testing.T) {
	wantModule(t, "")
	wantModule(t, "IMPORT A, B, Other;")
	wantModule(t, "CONST M* = 1; VAR N: CHAR; PROCEDURE O(); END O;")
	wantModule(t, "VAR a*: INTEGER; v*: ARRAY 100 OF BOOLEAN;")
	wantModule(t, "PROCEDURE M*(M: INTEGER); END M;")
	wantBody(t, "")
	wantBody(t, "i := 1; b := TRUE; c := \"x\"; v[0] := i; w[v[i]] := c; P(); R(i); R(v[2]); b := Q(1, w[0]); b := Q(-i * 3 + LEN(v), c)")
	wantBody(t, "IF b THEN i := j END; IF ~b & (i < 2) OR (c <= \"z\") THEN ELSE P() END; IF kb THEN ELSIF A.t THEN ELSIF A.b THEN ELSE RETURN END; WHILE b # (c = kc) DO b := FALSE END")
	wantBody(t, "WRITE(1); WRITE(b); WRITE(\"x\"); WRITE(v[1]); WRITE(k); WRITE(A.c); WRITE(F()); WRITE(1 = 2); READ(i); READ(c); READ(v[i]); READ(w[0]); RETURN")
	wantBody(t, "i := A.k; i := A.x; c := A.h; b := A.b; c := A.v[i]; i := LEN(A.v) + LEN(A.w) + A.w[0]; i := A.F(i); A.G(); b := A.H(i, \"x\"); A.S(c, b); A.S(w[1], A.t)")
	wantBody(t, "i := ORD(c) + ORD(\"x\"); c := CHR(i); c := CHR(ORD(CHR(1))); i := - -1; b := ~ ~b; b := i DIV 0 = j MOD 0; c := CHR(55296)")
}

func TestImports(t *testing.T) {
	wantModuleFault(t, "IMPORT M;", impl.ErrCycle, impl.NdImport, 1)
	wantModuleFault(t, "IMPORT A, M;", impl.ErrCycle, impl.NdImport, 2)
	wantModuleFault(t, "IMPORT C;", impl.ErrNone, impl.NdImport, 1)
	wantModuleFault(t, "IMPORT A, a;", impl.ErrNone, impl.NdImport, 2)
	wantModuleFault(t, "IMPORT C, M;", impl.ErrNone, impl.NdImport, 1)
	wantModuleFault(t, "IMPORT A, B, A;", impl.ErrTwice, impl.NdImport, 3)
	wantModuleFault(t, "IMPORT A, A, C;", impl.ErrTwice, impl.NdImport, 2)
	tree := treeOf(t, "MODULE A; IMPORT A; END A.")
	if code, place := impl.Check(tree, someImports()); code != impl.ErrCycle || place != 1 {
		t.Error("a module that imports itself and is among its imports:", code, place)
	}
	if code, place := impl.Check(treeOf(t, "MODULE A; IMPORT B; END A."), someImports()); code != impl.OK || place != 0 {
		t.Error("a module that is among the imports:", code, place)
	}
	if code, place := impl.Check(treeOf(t, "MODULE M; IMPORT A; END M."), nil); code != impl.ErrNone || place != 1 {
		t.Error("no imports:", code, place)
	}
}

func TestNamesGivenTwice(t *testing.T) {
	ahead := "IMPORT A; CONST k = 1; VAR v: CHAR; PROCEDURE P(); END P; "
	for _, name := range []string{"A", "k", "v", "P"} {
		wantModuleFault(t, ahead+"PROCEDURE "+name+"(); END "+name+";", impl.ErrTwice, impl.NdProc, 2)
	}
	wantModuleFault(t, "IMPORT A; CONST A = 1;", impl.ErrTwice, impl.NdConst, 1)
	wantModuleFault(t, "CONST k = 1; k = 1;", impl.ErrTwice, impl.NdConst, 2)
	wantModuleFault(t, "CONST k = 1; k = k;", impl.ErrTwice, impl.NdConst, 2)
	wantModuleFault(t, "IMPORT A; VAR A: CHAR;", impl.ErrTwice, impl.NdVar, 1)
	wantModuleFault(t, "CONST k = 1; VAR k: CHAR;", impl.ErrTwice, impl.NdVar, 1)
	wantModuleFault(t, "VAR k, j, k: CHAR;", impl.ErrTwice, impl.NdVar, 3)
	wantModuleFault(t, "VAR k: CHAR; k: ARRAY 3 OF CHAR;", impl.ErrTwice, impl.NdVar, 2)
	wantModuleFault(t, "PROCEDURE P(a, a: CHAR); END P;", impl.ErrTwice, impl.NdParam, 2)
	wantModuleFault(t, "PROCEDURE P(a: CHAR; VAR a: INTEGER); END P;", impl.ErrTwice, impl.NdParam, 2)
	wantModuleFault(t, "PROCEDURE P(a: CHAR); VAR a: CHAR; END P;", impl.ErrTwice, impl.NdVar, 1)
	wantModuleFault(t, "PROCEDURE P(); VAR a, a: CHAR; END P;", impl.ErrTwice, impl.NdVar, 2)
	wantModule(t, "VAR a: CHAR; PROCEDURE P(a: CHAR); VAR b, P: CHAR; END P; PROCEDURE Q(b: CHAR); VAR a: CHAR; END Q;")
	// Of a constant it is told last.
	wantModuleFault(t, "CONST k = 1; k = x;", impl.ErrName, impl.NdName, 1)
	wantModuleFault(t, "CONST k = 1; k = 1 MOD 0;", impl.ErrRange, impl.NdBinary, 1)
	wantModuleFault(t, "IMPORT A; CONST A = A.x;", impl.ErrPlace, impl.NdName, 1)
}

func TestExportedVariablesOfProcedures(t *testing.T) {
	wantModuleFault(t, "PROCEDURE P(); VAR x*: CHAR; END P;", impl.ErrPlace, impl.NdVar, 1)
	wantModuleFault(t, "PROCEDURE P(); VAR x, y*: ARRAY 2 OF CHAR; END P;", impl.ErrPlace, impl.NdVar, 2)
	wantModuleFault(t, "PROCEDURE P(x: CHAR); VAR x*: CHAR; END P;", impl.ErrPlace, impl.NdVar, 1)
	wantModuleFault(t, "PROCEDURE P(x: CHAR); VAR x: CHAR; y*: CHAR; END P;", impl.ErrTwice, impl.NdVar, 1)
}

func params(many int) string {
	list := make([]string, many)
	for i := range list {
		list[i] = "p" + strconv.Itoa(i)
	}
	return strings.Join(list, ", ")
}

func TestManyParameters(t *testing.T) {
	wantModule(t, "PROCEDURE P("+params(20)+": CHAR); END P;")
	wantModule(t, "PROCEDURE P("+params(20)+": CHAR): INTEGER; VAR a, b: CHAR; END P;")
	wantModuleFault(t, "PROCEDURE P("+params(21)+": CHAR); END P;", impl.ErrMany, impl.NdProc, 1)
	wantModuleFault(t, "PROCEDURE P(); END P; PROCEDURE P("+params(21)+": CHAR); END P;", impl.ErrMany, impl.NdProc, 2)
	wantModuleFault(t, "PROCEDURE P(); END P; PROCEDURE P("+params(20)+": CHAR); END P;", impl.ErrTwice, impl.NdProc, 2)
	wantModuleFault(t, "PROCEDURE P("+params(20)+", p0: CHAR); VAR x*: CHAR; END P;", impl.ErrMany, impl.NdProc, 1)
}

func TestWhatIsInSight(t *testing.T) {
	wantModuleFault(t, "CONST a = b; b = 1;", impl.ErrName, impl.NdName, 1)
	wantModuleFault(t, "CONST a = a;", impl.ErrName, impl.NdName, 1)
	wantModuleFault(t, "CONST a = 1 + a;", impl.ErrName, impl.NdName, 1)
	wantModule(t, "CONST a = 1; b = a; c = b + a;")
	wantModuleFault(t, "PROCEDURE P(); BEGIN Q() END P; PROCEDURE Q(); END Q;", impl.ErrName, impl.NdCall, 1)
	wantModule(t, "PROCEDURE Q(); END Q; PROCEDURE P(); BEGIN Q(); P() END P;")
	wantModule(t, "PROCEDURE P(a: INTEGER): INTEGER; BEGIN RETURN P(P(a)) END P;")
	wantModule(t, "VAR a: INTEGER; PROCEDURE P(); BEGIN a := 1 END P;")
	// A procedure's own are in it alone, and hide the module's.
	wantModuleFault(t, "PROCEDURE P(a: INTEGER); END P; BEGIN a := 1", impl.ErrName, impl.NdName, 1)
	wantModuleFault(t, "PROCEDURE P(); VAR a: INTEGER; END P; PROCEDURE Q(); BEGIN a := 1 END Q;", impl.ErrName, impl.NdName, 1)
	wantModule(t, "VAR a: INTEGER; PROCEDURE P(a: CHAR); BEGIN a := \"x\" END P; BEGIN a := 1")
	wantModuleFault(t, "VAR a: INTEGER; PROCEDURE P(a: CHAR); BEGIN a := 1 END P;", impl.ErrType, impl.NdInt, 1)
	wantModuleFault(t, "VAR a: INTEGER; PROCEDURE P(); VAR a: CHAR; BEGIN a := 1 END P;", impl.ErrType, impl.NdInt, 1)
	wantModuleFault(t, "VAR a: INTEGER; PROCEDURE P(a: CHAR); END P; BEGIN a := \"x\"", impl.ErrType, impl.NdChar, 1)
	wantModuleFault(t, "PROCEDURE P(); VAR P: CHAR; BEGIN P() END P;", impl.ErrType, impl.NdCall, 1)
	wantModule(t, "CONST k = 1; PROCEDURE P(); VAR k: CHAR; BEGIN READ(k) END P;")
	// No name of a module is in sight because the module has it.
	wantModuleFault(t, "BEGIN M()", impl.ErrName, impl.NdCall, 1)
	wantModuleFault(t, "BEGIN WRITE(M)", impl.ErrName, impl.NdName, 1)
	wantModuleFault(t, "VAR x: INTEGER; BEGIN M.x := 1", impl.ErrName, impl.NdName, 1)
}

func TestNamesOfImports(t *testing.T) {
	wantBodyFault(t, "WRITE(A)", impl.ErrName, impl.NdName, 1)
	wantBodyFault(t, "A()", impl.ErrName, impl.NdCall, 1)
	wantBodyFault(t, "WRITE(A.nothing)", impl.ErrName, impl.NdName, 1)
	wantBodyFault(t, "A.g()", impl.ErrName, impl.NdCall, 1)
	wantBodyFault(t, "A.P()", impl.ErrName, impl.NdCall, 1)
	wantBodyFault(t, "B.G()", impl.ErrName, impl.NdCall, 1)
	wantBodyFault(t, "Other.G()", impl.ErrName, impl.NdCall, 1)
	wantBodyFault(t, "WRITE(Other.k)", impl.ErrName, impl.NdName, 1)
	wantBodyFault(t, "i := x", impl.ErrName, impl.NdName, 2)
	wantBodyFault(t, "G()", impl.ErrName, impl.NdCall, 1)
	for _, name := range []string{"k", "i", "v", "P"} {
		wantBodyFault(t, "WRITE("+name+".k)", impl.ErrName, impl.NdName, 1)
		wantBodyFault(t, name+".G()", impl.ErrName, impl.NdCall, 1)
	}
	wantModuleFault(t, "BEGIN A.G()", impl.ErrName, impl.NdCall, 1)
	// What hides an import hides what it exports.
	wantModuleFault(t, "IMPORT A; PROCEDURE P(A: INTEGER); BEGIN A.G() END P;", impl.ErrName, impl.NdCall, 1)
	wantModuleFault(t, "IMPORT A; PROCEDURE P(); VAR A: CHAR; BEGIN WRITE(A.k) END P;", impl.ErrName, impl.NdName, 1)
	wantModule(t, "IMPORT A; PROCEDURE P(A: INTEGER); BEGIN A := 1 END P; BEGIN A.G()")
	wantModule(t, "IMPORT A; PROCEDURE G(k: CHAR); BEGIN A.G(); WRITE(A.k + 1); WRITE(k = \"x\") END G;")
}

func TestWhatNamesStandFor(t *testing.T) {
	for _, name := range []string{"P", "Q", "A.F", "A.G"} {
		wantBodyFault(t, "WRITE("+name+")", impl.ErrType, impl.NdName, 1)
		wantBodyFault(t, name+" := 1", impl.ErrType, impl.NdName, 1)
		wantBodyFault(t, "WRITE("+name+"[0])", impl.ErrType, impl.NdName, 1)
		wantBodyFault(t, "WRITE(LEN("+name+"))", impl.ErrType, impl.NdName, 1)
	}
	for _, name := range []string{"v", "w", "A.v", "A.w"} {
		wantBodyFault(t, "WRITE("+name+")", impl.ErrType, impl.NdName, 1)
		wantBodyFault(t, name+" := 1", impl.ErrType, impl.NdName, 1)
		wantBodyFault(t, "READ("+name+")", impl.ErrType, impl.NdName, 1)
		wantBodyFault(t, "R("+name+")", impl.ErrType, impl.NdName, 1)
		wantBodyFault(t, name+"()", impl.ErrType, impl.NdCall, 1)
		wantBody(t, "WRITE("+name+"[0]); WRITE(LEN("+name+"))")
	}
	for _, name := range []string{"i", "c", "k", "A.x", "A.k", "A.c"} {
		wantBodyFault(t, "WRITE("+name+"[0])", impl.ErrType, impl.NdName, 1)
		wantBodyFault(t, name+"[0] := 1", impl.ErrType, impl.NdName, 1)
		wantBodyFault(t, "READ("+name+"[x])", impl.ErrType, impl.NdName, 1)
		wantBodyFault(t, "WRITE(LEN("+name+"))", impl.ErrType, impl.NdName, 1)
		wantBodyFault(t, name+"(x)", impl.ErrType, impl.NdCall, 1)
		wantBody(t, "WRITE("+name+")")
	}
	wantModuleFault(t, "PROCEDURE P(a: INTEGER); BEGIN a[0] := 1 END P;", impl.ErrType, impl.NdName, 1)
	wantModuleFault(t, "PROCEDURE P(); VAR a: ARRAY 1 OF CHAR; BEGIN WRITE(a) END P;", impl.ErrType, impl.NdName, 1)
	wantModule(t, "VAR a: CHAR; PROCEDURE P(); VAR a: ARRAY 1 OF CHAR; BEGIN a[0] := \"x\"; WRITE(LEN(a)) END P;")
}

func TestTypesOfIndexes(t *testing.T) {
	wantBodyFault(t, "v[\"a\"] := 1", impl.ErrType, impl.NdChar, 1)
	wantBodyFault(t, "v[b] := 1", impl.ErrType, impl.NdName, 2)
	wantBodyFault(t, "WRITE(v[w[0]])", impl.ErrType, impl.NdIndex, 2)
	wantBodyFault(t, "WRITE(v[P()])", impl.ErrResult, impl.NdCall, 1)
	wantBodyFault(t, "WRITE(v[v])", impl.ErrType, impl.NdName, 2)
	wantBodyFault(t, "WRITE(v[x])", impl.ErrName, impl.NdName, 2)
	wantBodyFault(t, "b := w[0]", impl.ErrType, impl.NdIndex, 1)
	wantBody(t, "v[100] := v[-1]; v[v[v[0]]] := LEN(w); c := w[ORD(c)]")
}

func TestTypesOfSigns(t *testing.T) {
	for _, sign := range strings.Fields("+ - * DIV MOD") {
		wantBody(t, "i := 1 "+sign+" j")
		wantBodyFault(t, "b := 1 "+sign+" j", impl.ErrType, impl.NdBinary, 1)
		wantBodyFault(t, "i := b "+sign+" 1", impl.ErrType, impl.NdName, 2)
		wantBodyFault(t, "i := 1 "+sign+" \"x\"", impl.ErrType, impl.NdChar, 1)
		wantBodyFault(t, "i := c "+sign+" b", impl.ErrType, impl.NdName, 2)
		wantBodyFault(t, "i := TRUE "+sign+" x", impl.ErrType, impl.NdBool, 1)
		wantBodyFault(t, "i := P() "+sign+" x", impl.ErrResult, impl.NdCall, 1)
		wantBodyFault(t, "i := 1 "+sign+" P()", impl.ErrResult, impl.NdCall, 1)
	}
	for _, sign := range []string{"OR", "&"} {
		wantBody(t, "b := TRUE "+sign+" b")
		wantBodyFault(t, "i := TRUE "+sign+" b", impl.ErrType, impl.NdBinary, 1)
		wantBodyFault(t, "b := 1 "+sign+" b", impl.ErrType, impl.NdInt, 1)
		wantBodyFault(t, "b := b "+sign+" c", impl.ErrType, impl.NdName, 3)
		wantBodyFault(t, "b := \"x\" "+sign+" 1", impl.ErrType, impl.NdChar, 1)
		wantBodyFault(t, "b := 1 "+sign+" P()", impl.ErrType, impl.NdInt, 1)
		wantBodyFault(t, "b := b "+sign+" P()", impl.ErrResult, impl.NdCall, 1)
	}
	wantBodyFault(t, "i := -b", impl.ErrType, impl.NdName, 2)
	wantBodyFault(t, "i := -\"x\"", impl.ErrType, impl.NdChar, 1)
	wantBodyFault(t, "b := -1", impl.ErrType, impl.NdUnary, 1)
	wantBodyFault(t, "b := ~1", impl.ErrType, impl.NdInt, 1)
	wantBodyFault(t, "b := ~\"x\"", impl.ErrType, impl.NdChar, 1)
	wantBodyFault(t, "i := ~b", impl.ErrType, impl.NdUnary, 1)
	wantBodyFault(t, "b := ~P()", impl.ErrResult, impl.NdCall, 1)
	wantBodyFault(t, "i := -P()", impl.ErrResult, impl.NdCall, 1)
}

func TestTypesOfComparisons(t *testing.T) {
	for _, sign := range strings.Fields("= # < <= > >=") {
		wantBody(t, "b := 1 "+sign+" i")
		wantBody(t, "b := c "+sign+" \"x\"")
		wantBodyFault(t, "i := 1 "+sign+" 2", impl.ErrType, impl.NdBinary, 1)
		wantBodyFault(t, "c := c "+sign+" c", impl.ErrType, impl.NdBinary, 1)
		wantBodyFault(t, "b := 1 "+sign+" c", impl.ErrType, impl.NdName, 2)
		wantBodyFault(t, "b := 1 "+sign+" b", impl.ErrType, impl.NdName, 2)
		wantBodyFault(t, "b := c "+sign+" 1", impl.ErrType, impl.NdInt, 1)
		wantBodyFault(t, "b := c "+sign+" TRUE", impl.ErrType, impl.NdBool, 1)
		wantBodyFault(t, "b := c "+sign+" v", impl.ErrType, impl.NdName, 3)
		wantBodyFault(t, "b := P() "+sign+" 1", impl.ErrResult, impl.NdCall, 1)
		wantBodyFault(t, "b := 1 "+sign+" P()", impl.ErrResult, impl.NdCall, 1)
		wantBodyFault(t, "b := x "+sign+" P()", impl.ErrName, impl.NdName, 2)
	}
	for _, sign := range []string{"=", "#"} {
		wantBody(t, "b := TRUE "+sign+" b")
		wantBodyFault(t, "b := TRUE "+sign+" 1", impl.ErrType, impl.NdInt, 1)
		wantBodyFault(t, "b := TRUE "+sign+" x", impl.ErrName, impl.NdName, 2)
	}
	for _, sign := range strings.Fields("< <= > >=") {
		wantBodyFault(t, "b := TRUE "+sign+" b", impl.ErrType, impl.NdBool, 1)
		wantBodyFault(t, "b := TRUE "+sign+" x", impl.ErrType, impl.NdBool, 1)
	}
}

func TestTypesOfFunctions(t *testing.T) {
	wantBodyFault(t, "i := ORD(1)", impl.ErrType, impl.NdInt, 1)
	wantBodyFault(t, "i := ORD(b)", impl.ErrType, impl.NdName, 2)
	wantBodyFault(t, "c := ORD(c)", impl.ErrType, impl.NdOrd, 1)
	wantBodyFault(t, "i := ORD(P())", impl.ErrResult, impl.NdCall, 1)
	wantBodyFault(t, "c := CHR(c)", impl.ErrType, impl.NdName, 2)
	wantBodyFault(t, "c := CHR(TRUE)", impl.ErrType, impl.NdBool, 1)
	wantBodyFault(t, "i := CHR(1)", impl.ErrType, impl.NdChr, 1)
	wantBodyFault(t, "c := CHR(P())", impl.ErrResult, impl.NdCall, 1)
	wantBodyFault(t, "c := LEN(w)", impl.ErrType, impl.NdLen, 1)
	wantBodyFault(t, "i := LEN(x)", impl.ErrName, impl.NdName, 2)
	wantBodyFault(t, "i := LEN(A.nothing)", impl.ErrName, impl.NdName, 2)
}

func TestCalls(t *testing.T) {
	wantBodyFault(t, "P(1)", impl.ErrCount, impl.NdCall, 1)
	wantBodyFault(t, "P(x)", impl.ErrCount, impl.NdCall, 1)
	wantBodyFault(t, "R()", impl.ErrCount, impl.NdCall, 1)
	wantBodyFault(t, "R(i, j)", impl.ErrCount, impl.NdCall, 1)
	wantBodyFault(t, "b := Q(1)", impl.ErrCount, impl.NdCall, 1)
	wantBodyFault(t, "b := Q(1, c, c)", impl.ErrCount, impl.NdCall, 1)
	wantBodyFault(t, "A.G(x)", impl.ErrCount, impl.NdCall, 1)
	wantBodyFault(t, "b := A.H(1)", impl.ErrCount, impl.NdCall, 1)
	wantBodyFault(t, "b := Q(c, x)", impl.ErrType, impl.NdName, 2)
	wantBodyFault(t, "b := Q(x, 1)", impl.ErrName, impl.NdName, 2)
	wantBodyFault(t, "b := Q(P(), 1)", impl.ErrResult, impl.NdCall, 2)
	wantBodyFault(t, "b := A.H(\"x\", 1)", impl.ErrType, impl.NdChar, 1)
	wantBodyFault(t, "b := A.H(1, 2)", impl.ErrType, impl.NdInt, 2)
	wantBodyFault(t, "b := A.H(1 + b, 2)", impl.ErrType, impl.NdName, 2)
	wantBodyFault(t, "i := A.H(1, c)", impl.ErrType, impl.NdCall, 1)
	wantBody(t, "b := A.H(A.F(j), CHR(F()))")
	// As a statement a call has no result, where a value is due it has one.
	wantBodyFault(t, "F()", impl.ErrResult, impl.NdCall, 1)
	wantBodyFault(t, "b := b; A.F(i)", impl.ErrResult, impl.NdCall, 1)
	wantBodyFault(t, "A.F(1)", impl.ErrPlace, impl.NdInt, 1)
	wantBodyFault(t, "F(1)", impl.ErrCount, impl.NdCall, 1)
	wantBodyFault(t, "WRITE(P())", impl.ErrResult, impl.NdCall, 1)
	wantBodyFault(t, "WRITE(P(1))", impl.ErrCount, impl.NdCall, 1)
	wantBodyFault(t, "WRITE(R(1))", impl.ErrPlace, impl.NdInt, 1)
	wantBodyFault(t, "i := A.G()", impl.ErrResult, impl.NdCall, 1)
	wantBodyFault(t, "b := P() = P()", impl.ErrResult, impl.NdCall, 1)
}

func TestArgumentsOfVariableParameters(t *testing.T) {
	wantBody(t, "R(i); R(v[0]); R(v[v[i]]); b := Q(1, c); b := Q(1, w[i])")
	for _, c := range []struct {
		value     string
		kind, nth int
	}{
		{"1", impl.NdInt, 1}, {"-i", impl.NdUnary, 1}, {"i + 1", impl.NdBinary, 1}, {"F()", impl.NdCall, 2}, {"ORD(c)", impl.NdOrd, 1}, {"CHR(i)", impl.NdChr, 1}, {"LEN(v)", impl.NdLen, 1}, {"\"x\"", impl.NdChar, 1}, {"TRUE", impl.NdBool, 1},
	} {
		wantBodyFault(t, "R("+c.value+")", impl.ErrPlace, c.kind, c.nth)
		wantBodyFault(t, "R("+c.value+"); x := 1", impl.ErrPlace, c.kind, c.nth)
	}
	wantBodyFault(t, "R(b)", impl.ErrType, impl.NdName, 1)
	wantBodyFault(t, "R(c)", impl.ErrType, impl.NdName, 1)
	wantBodyFault(t, "R(x + P())", impl.ErrPlace, impl.NdBinary, 1)
	wantBodyFault(t, "R(P())", impl.ErrPlace, impl.NdCall, 2)
	wantBodyFault(t, "R(k)", impl.ErrPlace, impl.NdName, 1)
	wantBodyFault(t, "R(kc)", impl.ErrPlace, impl.NdName, 1)
	wantBodyFault(t, "R(A.k)", impl.ErrPlace, impl.NdName, 1)
	wantBodyFault(t, "R(A.x)", impl.ErrPlace, impl.NdName, 1)
	wantBodyFault(t, "R(A.h)", impl.ErrPlace, impl.NdName, 1)
	wantBodyFault(t, "R(A.w[0])", impl.ErrPlace, impl.NdIndex, 1)
	wantBodyFault(t, "R(A.w[b])", impl.ErrType, impl.NdName, 2)
	wantBodyFault(t, "R(w[0])", impl.ErrType, impl.NdIndex, 1)
	wantBodyFault(t, "R(w[x])", impl.ErrName, impl.NdName, 2)
	wantBodyFault(t, "R(P)", impl.ErrType, impl.NdName, 1)
	wantBodyFault(t, "R(x)", impl.ErrName, impl.NdName, 1)
	wantBodyFault(t, "A.S(c, 1)", impl.ErrType, impl.NdInt, 1)
	wantBodyFault(t, "A.S(A.h, 1)", impl.ErrPlace, impl.NdName, 1)
	wantModule(t, "PROCEDURE P(a: INTEGER; VAR b: INTEGER); VAR c: INTEGER; d: ARRAY 2 OF INTEGER; BEGIN P(1, a); P(1, b); P(1, c); P(1, d[1]) END P;")
	wantModuleFault(t, "PROCEDURE P(a: INTEGER; VAR b: CHAR); BEGIN P(1, a) END P;", impl.ErrType, impl.NdName, 1)
}

func TestWhatIsGivenAValue(t *testing.T) {
	for _, name := range []string{"k", "A.x", "A.k"} {
		wantBodyFault(t, name+" := 1", impl.ErrPlace, impl.NdName, 1)
		wantBodyFault(t, name+" := x", impl.ErrPlace, impl.NdName, 1)
		wantBodyFault(t, "READ("+name+")", impl.ErrPlace, impl.NdName, 1)
	}
	wantBodyFault(t, "A.v[0] := \"x\"", impl.ErrPlace, impl.NdIndex, 1)
	wantBodyFault(t, "A.v[b] := x", impl.ErrType, impl.NdName, 2)
	wantBodyFault(t, "READ(A.w[0])", impl.ErrPlace, impl.NdIndex, 1)
	wantBodyFault(t, "i := TRUE", impl.ErrType, impl.NdBool, 1)
	wantBodyFault(t, "i := c", impl.ErrType, impl.NdName, 2)
	wantBodyFault(t, "b := 0", impl.ErrType, impl.NdInt, 1)
	wantBodyFault(t, "c := 1", impl.ErrType, impl.NdInt, 1)
	wantBodyFault(t, "w[0] := 1", impl.ErrType, impl.NdInt, 2)
	wantBodyFault(t, "i := P()", impl.ErrResult, impl.NdCall, 1)
	wantBodyFault(t, "x := y", impl.ErrName, impl.NdName, 1)
	wantBodyFault(t, "i := y", impl.ErrName, impl.NdName, 2)
	wantModule(t, "PROCEDURE P(a: INTEGER; VAR b: BOOLEAN); VAR c: CHAR; BEGIN a := 1; b := TRUE; c := \"x\"; READ(a); READ(c) END P;")
	wantModuleFault(t, "PROCEDURE P(a: INTEGER); BEGIN a := TRUE END P;", impl.ErrType, impl.NdBool, 1)
	wantModuleFault(t, "PROCEDURE P(VAR a: CHAR); BEGIN a := 1 END P;", impl.ErrType, impl.NdInt, 1)
}

func TestReading(t *testing.T) {
	wantBody(t, "READ(i); READ(c); READ(v[0]); READ(w[LEN(w)])")
	wantBodyFault(t, "READ(b)", impl.ErrType, impl.NdName, 1)
	wantBodyFault(t, "READ(kb)", impl.ErrPlace, impl.NdName, 1)
	wantBodyFault(t, "READ(A.b)", impl.ErrPlace, impl.NdName, 1)
	wantModuleFault(t, "VAR f: ARRAY 3 OF BOOLEAN; BEGIN READ(f[0])", impl.ErrType, impl.NdIndex, 1)
	wantModuleFault(t, "PROCEDURE P(b: BOOLEAN); BEGIN READ(b) END P;", impl.ErrType, impl.NdName, 1)
}

func TestConditions(t *testing.T) {
	for _, c := range []struct {
		value           string
		code, kind, nth int
	}{
		{"1", impl.ErrType, impl.NdInt, 1}, {"\"x\"", impl.ErrType, impl.NdChar, 1}, {"i", impl.ErrType, impl.NdName, 1},
		{"P()", impl.ErrResult, impl.NdCall, 1}, {"F()", impl.ErrType, impl.NdCall, 1}, {"x", impl.ErrName, impl.NdName, 1}, {"i + 1", impl.ErrType, impl.NdBinary, 1},
	} {
		wantBodyFault(t, "IF "+c.value+" THEN x := 1 ELSE y := 2 END", c.code, c.kind, c.nth)
		wantBodyFault(t, "WHILE "+c.value+" DO x := 1 END", c.code, c.kind, c.nth)
		wantBodyFault(t, "IF TRUE THEN ELSIF "+c.value+" THEN x := 1 END", c.code, c.kind, c.nth)
	}
	wantBodyFault(t, "IF b THEN i := x ELSE i := y END", impl.ErrName, impl.NdName, 3)
	wantBodyFault(t, "IF b THEN i := 1 ELSE i := y END", impl.ErrName, impl.NdName, 4)
	wantBodyFault(t, "WHILE b DO i := y END", impl.ErrName, impl.NdName, 3)
	wantBodyFault(t, "WHILE b DO IF b THEN WHILE b DO RETURN 1 END END END", impl.ErrResult, impl.NdReturn, 1)
}

func TestReturns(t *testing.T) {
	wantModule(t, "BEGIN RETURN; RETURN")
	wantModuleFault(t, "BEGIN RETURN 1", impl.ErrResult, impl.NdReturn, 1)
	wantModuleFault(t, "BEGIN RETURN x", impl.ErrResult, impl.NdReturn, 1)
	wantModule(t, "PROCEDURE P(); BEGIN RETURN END P;")
	wantModuleFault(t, "PROCEDURE P(); BEGIN RETURN; RETURN x END P;", impl.ErrResult, impl.NdReturn, 2)
	for _, c := range []struct{ result, value string }{{"INTEGER", "1"}, {"BOOLEAN", "TRUE"}, {"CHAR", "\"x\""}} {
		begin, end := "PROCEDURE P(): "+c.result+"; BEGIN ", " END P;"
		wantModule(t, begin+end)
		wantModule(t, begin+"RETURN "+c.value+end)
		wantModuleFault(t, begin+"RETURN "+c.value+"; RETURN"+end, impl.ErrResult, impl.NdReturn, 2)
		wantModuleFault(t, begin+"RETURN x"+end, impl.ErrName, impl.NdName, 1)
		wantModuleFault(t, "PROCEDURE Q(); END Q; "+begin+"RETURN Q()"+end, impl.ErrResult, impl.NdCall, 1)
		// Behind it the body returns nothing, and so does the next procedure.
		wantModule(t, begin+"RETURN P()"+end+" BEGIN RETURN")
		wantModuleFault(t, begin+"RETURN P()"+end+" BEGIN RETURN "+c.value, impl.ErrResult, impl.NdReturn, 2)
		wantModuleFault(t, begin+"RETURN P()"+end+" PROCEDURE Q(); BEGIN RETURN "+c.value+" END Q;", impl.ErrResult, impl.NdReturn, 2)
	}
	wantModuleFault(t, "PROCEDURE P(): CHAR; BEGIN RETURN 1 END P;", impl.ErrType, impl.NdInt, 1)
	wantModuleFault(t, "PROCEDURE P(): INTEGER; BEGIN RETURN TRUE END P;", impl.ErrType, impl.NdBool, 1)
	wantModuleFault(t, "PROCEDURE P(): BOOLEAN; BEGIN WHILE TRUE DO RETURN \"x\" END END P;", impl.ErrType, impl.NdChar, 1)
}

func TestWriting(t *testing.T) {
	wantBodyFault(t, "WRITE(P())", impl.ErrResult, impl.NdCall, 1)
	wantBodyFault(t, "WRITE(v)", impl.ErrType, impl.NdName, 1)
	wantBodyFault(t, "WRITE(x)", impl.ErrName, impl.NdName, 1)
	wantBodyFault(t, "WRITE(-TRUE)", impl.ErrType, impl.NdBool, 1)
}

// Two faults each, the one that is met first told.
func TestWhatIsMetFirstInAModule(t *testing.T) {
	list := []struct {
		text      string
		code      int
		kind, nth int
	}{
		{"IMPORT C;", impl.ErrNone, impl.NdImport, 1},
		{"CONST k = 1 DIV 0;", impl.ErrRange, impl.NdBinary, 1},
		{"VAR a, a: CHAR;", impl.ErrTwice, impl.NdVar, 2},
		{"PROCEDURE P(); VAR b*: CHAR; END P;", impl.ErrPlace, impl.NdVar, 1},
		{"PROCEDURE Q(); BEGIN Q(1) END Q;", impl.ErrCount, impl.NdCall, 1},
		{"BEGIN x := 1", impl.ErrName, impl.NdName, 1},
	}
	for i, first := range list {
		for _, later := range list[i+1:] {
			wantModuleFault(t, first.text+" "+later.text, first.code, first.kind, first.nth)
		}
	}
	statements := []struct {
		text      string
		code      int
		kind, nth int
	}{
		{"i := TRUE", impl.ErrType, impl.NdBool, 1}, {"y := 1", impl.ErrName, impl.NdName, 1}, {"P(1)", impl.ErrCount, impl.NdCall, 1}, {"F()", impl.ErrResult, impl.NdCall, 1},
		{"IF 1 THEN END", impl.ErrType, impl.NdInt, 1}, {"WHILE P() DO END", impl.ErrResult, impl.NdCall, 1}, {"RETURN 1", impl.ErrResult, impl.NdReturn, 1},
		{"WRITE(v)", impl.ErrType, impl.NdName, 1}, {"READ(k)", impl.ErrPlace, impl.NdName, 1}, {"IF TRUE THEN READ(k) END", impl.ErrPlace, impl.NdName, 1},
	}
	for _, first := range statements {
		for _, later := range statements {
			wantBodyFault(t, first.text+"; "+later.text, first.code, first.kind, first.nth)
			wantBodyFault(t, "IF TRUE = TRUE THEN ELSE P(); WHILE (\"x\" = \"x\") DO "+strings.Replace(first.text, "TRUE", "FALSE", 1)+" END END; "+later.text, first.code, first.kind, first.nth+shift(first.kind))
		}
	}
}

// shift is how many nodes of that Kind the test above has ahead.
func shift(kind int) int {
	switch kind {
	case impl.NdBool:
		return 2
	case impl.NdCall:
		return 1
	}
	return 0
}

func TestPlacesOfLargeModules(t *testing.T) {
	for _, many := range []int{1, 50, 200} {
		wantBodyFault(t, strings.Repeat("i := j; ", many/2)+"i := y", impl.ErrName, impl.NdName, many/2*2+2)
	}
	tree := namedNode(impl.NdModule, 0, "M", blockNode())
	for range 698 {
		tree.Kids[0].Kids = append(tree.Kids[0].Kids, node(impl.NdReturn))
	}
	if code, place := impl.Check(tree, nil); code != impl.OK || place != 0 {
		t.Error("as many nodes as there may be:", code, place)
	}
	tree.Kids[0].Kids[696] = node(impl.NdReturn, intNode(1))
	tree.Kids[0].Kids = tree.Kids[0].Kids[:697]
	if code, place := impl.Check(tree, nil); code != impl.ErrResult || place != 698 {
		t.Error("a fault at the end of as many nodes as there may be:", code, place)
	}
	deepest := intNode(1)
	for range 36 {
		deepest = unaryNode("-", deepest)
	}
	if code, place := impl.Check(moduleNode(writeNode(deepest)), nil); code != impl.OK || place != 0 {
		t.Error("as deep as may be:", code, place)
	}
	deepest = numberNode(impl.NdBool, 1)
	for range 36 {
		deepest = unaryNode("-", deepest)
	}
	if code, place := impl.Check(moduleNode(writeNode(deepest)), nil); code != impl.ErrType || place != 39 {
		t.Error("a fault as deep as may be:", code, place)
	}
}

func TestCheckOfWrongArguments(t *testing.T) {
	good, wrong := treeOf(t, "MODULE M; END M."), impl.Node{Kind: impl.NdBlock}
	faulty := treeOf(t, "MODULE M; IMPORT C; END M.")
	bad := impl.Interface{Module: "9"}
	list := func(many int) []impl.Interface {
		var imports []impl.Interface
		for i := range many {
			imports = append(imports, impl.Interface{Module: "I" + strconv.Itoa(i)})
		}
		return imports
	}
	for _, c := range []struct {
		name    string
		tree    impl.Node
		imports []impl.Interface
		code    int
	}{
		{"nothing", good, nil, impl.OK},
		{"no tree", impl.Node{}, nil, impl.ErrBad},
		{"no module", wrong, nil, impl.ErrBad},
		{"a module within a list without an end", many(701), nil, impl.ErrBad},
		{"a name that is none", namedNode(impl.NdModule, 0, "END", blockNode()), nil, impl.ErrBad},
		{"twenty imports", good, list(20), impl.OK},
		{"more imports", good, list(21), impl.ErrBad},
		{"more imports, and a fault", faulty, list(21), impl.ErrBad},
		{"as many imports as a list has", good, list(impl.MaxList), impl.ErrBad},
		{"more imports than a list has", good, list(impl.MaxList + 1), impl.ErrLong},
		{"more imports than a list has, no tree", impl.Node{}, list(impl.MaxList + 1), impl.ErrLong},
		{"an import twice", good, []impl.Interface{{Module: "A"}, {Module: "B"}, {Module: "A"}}, impl.ErrBad},
		{"an import that is not right", good, []impl.Interface{{Module: "A"}, bad}, impl.ErrBad},
		{"an import that is not right, and a fault", faulty, []impl.Interface{bad}, impl.ErrBad},
		{"an import with a word for a name", good, []impl.Interface{{Module: "A"}, {Module: "END"}}, impl.ErrBad},
		{"an import with a word for a name, and a fault", faulty, []impl.Interface{{Module: "LEN"}}, impl.ErrBad},
		{"an import that exports a word", good, []impl.Interface{{Module: "A", Items: []impl.Item{{Kind: impl.ItProc, Name: "IF"}}}}, impl.ErrBad},
		{"imports of many items", good, []impl.Interface{{Module: "A", Items: manyItems(60)}}, impl.OK},
		{"imports of more items", good, []impl.Interface{{Module: "A", Items: manyItems(61)}}, impl.ErrBad},
		{"the module itself among them", good, []impl.Interface{{Module: "M"}}, impl.OK},
	} {
		if code, place := impl.Check(c.tree, c.imports); code != c.code || place != 0 {
			t.Errorf("Check, %s: code %d at %d, want %d", c.name, code, place, c.code)
		}
		x, code := impl.InterfaceOf(c.tree, c.imports)
		if code != c.code || code != impl.OK && (x.Module != "" || x.Items != nil) {
			t.Errorf("InterfaceOf, %s: code %d, want %d; %v", c.name, code, c.code, x)
		}
	}
}
