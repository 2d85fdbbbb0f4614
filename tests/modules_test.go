package tests

import (
	"math/rand"
	"slices"
	"strings"
	"testing"

	"loop.example/g00168/impl"
)

// linkedTrees compiles each tree with the interfaces of those ahead of it, and links the last one.
func linkedTrees(t *testing.T, trees ...impl.Node) (impl.Image, int) {
	t.Helper()
	var faces []impl.Interface
	var list []impl.Object
	for _, tree := range trees {
		o, code, place := impl.Compile(tree, faces)
		if code == impl.ErrSize {
			return impl.Image{}, code
		}
		x, faceCode := impl.InterfaceOf(tree, faces)
		if code != impl.OK || faceCode != impl.OK {
			t.Fatalf("Compile: code %d at %d, InterfaceOf %d", code, place, faceCode)
		}
		list, faces = append(list, o), append(faces, x)
	}
	slices.Reverse(list) // each ahead of what it needs
	x, _, code := wantLink(t, list, trees[len(trees)-1].Name)
	return x, code
}

func linkedTexts(t *testing.T, texts ...string) impl.Image {
	t.Helper()
	var trees []impl.Node
	for _, text := range texts {
		trees = append(trees, treeOf(t, text))
	}
	x, code := linkedTrees(t, trees...)
	if code != impl.OK {
		t.Fatalf("Link(%.300q): code %d", texts, code)
	}
	return x
}

// wantWritten runs modules, of which the last one is main, and evaluates them; what they write is told in lines, here with blanks for their ends.
func wantWritten(t *testing.T, texts []string, input []int, end, trap int, want string) {
	t.Helper()
	r := wantRun(t, linkedTexts(t, texts...), input, impl.MaxFuel)
	text, code := impl.OutText(r.Out)
	if got := strings.TrimSuffix(strings.ReplaceAll(text, "\n", " "), " "); code != impl.OK || got != want || r.End != end || r.Trap != trap {
		t.Errorf("%.900q: code %d, end %d, trap %d, %q, want %d, %d, %q", texts, code, r.End, r.Trap, got, end, trap, want)
	}
	list := sourcesOf(t, texts...)
	s := wantEvaluated(t, list, list[len(list)-1].Name, input, impl.MaxFuel)
	if s.End != r.End || s.Trap != r.Trap || !slices.Equal(s.Out, r.Out) {
		t.Errorf("%.900q: evaluated %v, run %v", texts, s, r)
	}
}

const variablesAhead = "MODULE M; CONST k = 5; VAR i, j: INTEGER; b, d: BOOLEAN; c: CHAR; v: ARRAY 3 OF INTEGER; w: ARRAY 2 OF CHAR; " +
	"PROCEDURE T(n: INTEGER): BOOLEAN; BEGIN WRITE(n); RETURN TRUE END T; PROCEDURE N(n: INTEGER): BOOLEAN; BEGIN WRITE(n); RETURN FALSE END N; PROCEDURE I(n: INTEGER): INTEGER; BEGIN WRITE(n); RETURN n END I; BEGIN "

// wantStated has statements in the body of a module that halts.
func wantStated(t *testing.T, statements, want string) {
	t.Helper()
	wantWritten(t, []string{variablesAhead + statements + " END M."}, nil, impl.EnHalt, 0, want)
}

func wantTrapped(t *testing.T, statements string, trap int, want string) {
	t.Helper()
	wantWritten(t, []string{variablesAhead + statements + " END M."}, nil, impl.EnTrap, trap, want)
}

func TestStatementsThatRun(t *testing.T) {
	wantStated(t, "", "")
	wantStated(t, "WRITE(i); WRITE(b); WRITE(c); WRITE(v[2]); WRITE(w[1])", "0 FALSE 00X 0 00X")
	wantStated(t, "i := 7; j := i; i := i + 1; WRITE(i); WRITE(j); b := i > j; WRITE(b); c := \"é\"; WRITE(c)", "8 7 TRUE \"é\"")
	wantStated(t, "v[0] := 4; v[v[0] - 2] := 6; WRITE(v[0]); WRITE(v[1]); WRITE(v[2]); w[1] := \"x\"; WRITE(w[0]); WRITE(w[1])", "4 0 6 00X \"x\"")
	wantStated(t, "v[I(1)] := I(2); v[I(0)] := v[I(1)]", "1 2 0 1")
	wantStated(t, "IF TRUE THEN WRITE(1) END; IF FALSE THEN WRITE(2) END; WRITE(3)", "1 3")
	wantStated(t, "IF TRUE THEN WRITE(1) ELSE WRITE(2) END; IF FALSE THEN WRITE(3) ELSE WRITE(4) END", "1 4")
	wantStated(t, "WHILE i < 4 DO IF i = 0 THEN WRITE(10) ELSIF i = 1 THEN WRITE(11) ELSIF i = 2 THEN ELSE WRITE(13) END; i := i + 1 END; WRITE(i)", "10 11 13 4")
	wantStated(t, "WHILE i < 3 DO j := 0; WHILE j < i DO WRITE(i * 10 + j); j := j + 1 END; i := i + 1 END", "10 20 21")
	wantStated(t, "WHILE FALSE DO WRITE(1) END; WRITE(2)", "2")
	wantStated(t, "WHILE I(i) < 2 DO i := i + 1 END", "0 1 2")
	wantStated(t, "WRITE(1); RETURN; WRITE(2)", "1")
	wantStated(t, "WHILE TRUE DO WRITE(1); IF i = 2 THEN RETURN END; i := i + 1 END", "1 1 1")
}

func TestExpressionsThatRun(t *testing.T) {
	wantStated(t, "WRITE(7); WRITE(\"a\"); WRITE(0AX); WRITE(TRUE); WRITE(FALSE); WRITE(k); WRITE(-k); WRITE(LEN(v)); WRITE(LEN(w))", "7 \"a\" 0AX TRUE FALSE 5 -5 3 2")
	wantStated(t, "WRITE(2 + 3 * 4); WRITE((2 + 3) * 4); WRITE(10 - 4 - 3); WRITE(10 - (4 - 3)); WRITE(- -5); WRITE(-(2 - 9))", "14 20 3 9 5 7")
	wantStated(t, "WRITE(I(9) - I(4)); WRITE(I(1) + I(2) * I(3))", "9 4 5 1 2 3 7")
	wantStated(t, "WRITE(-7 DIV 2); WRITE(-7 MOD 2); WRITE(7 DIV -2); WRITE(7 MOD -2); WRITE(-7 DIV -2); WRITE(-7 MOD -2); WRITE(7 DIV 2); WRITE(7 MOD 2)", "-4 1 -4 -1 3 -1 3 1")
	wantStated(t, "WRITE(1 = 1); WRITE(1 # 1); WRITE(1 < 2); WRITE(2 <= 2); WRITE(1 > 2); WRITE(2 >= 2); WRITE(TRUE = FALSE); WRITE(b # TRUE)", "TRUE FALSE TRUE TRUE FALSE TRUE FALSE TRUE")
	wantStated(t, "WRITE(\"a\" < \"b\"); WRITE(\"b\" <= \"a\"); WRITE(\"a\" = c); WRITE(10FFFFX > \"é\"); WRITE(0X >= c)", "TRUE FALSE FALSE TRUE TRUE")
	wantStated(t, "WRITE(ORD(\"A\")); WRITE(CHR(66)); WRITE(CHR(ORD(\"y\") + 1)); WRITE(ORD(CHR(1114111))); WRITE(CHR(55295)); WRITE(CHR(57344) = 0E000X)", "65 \"B\" \"z\" 1114111 \"\uD7FF\" TRUE")
	wantStated(t, "WRITE(~b); WRITE(~TRUE); WRITE(~(1 = 2)); WRITE(~ ~b)", "TRUE FALSE TRUE FALSE")
	// The right side of & and OR is worked out only where the left one leaves it open.
	wantStated(t, "WRITE(T(1) & T(2)); WRITE(T(3) & N(4)); WRITE(N(5) & T(6)); WRITE(N(7) & N(8))", "1 2 TRUE 3 4 FALSE 5 FALSE 7 FALSE")
	wantStated(t, "WRITE(T(1) OR T(2)); WRITE(T(3) OR N(4)); WRITE(N(5) OR T(6)); WRITE(N(7) OR N(8))", "1 TRUE 3 TRUE 5 6 TRUE 7 8 FALSE")
	wantStated(t, "WRITE(T(1) & N(2) OR T(3) & T(4)); WRITE((N(5) OR T(6)) & ~(T(7) & N(8)))", "1 2 3 4 TRUE 5 6 7 8 TRUE")
	wantStated(t, "WRITE((i # 0) & (1 DIV i = 1)); WRITE((i = 0) OR (1 DIV i = 1)); WRITE(N(1) = (T(2) & T(3)))", "FALSE TRUE 1 2 3 FALSE")
}

func TestNumbersThatWrap(t *testing.T) {
	most := "i := 999999999999999999; i := (i + 1) * 9 + 223372036854775807; "
	wantStated(t, most+"WRITE(i); WRITE(i + 1); WRITE(-i); WRITE(-i - 1); WRITE(-i - 2)", "9223372036854775807 -9223372036854775808 -9223372036854775807 -9223372036854775808 9223372036854775807")
	wantStated(t, most+"j := i + 1; WRITE(-j); WRITE(j - 1 = i); WRITE(j DIV -1); WRITE(j MOD -1); WRITE(j * -1); WRITE(i * i); WRITE(j < i); WRITE(j * 2)", "-9223372036854775808 TRUE -9223372036854775808 0 -9223372036854775808 1 TRUE 0")
}

func TestModulesThatTrap(t *testing.T) {
	for _, c := range []struct {
		statements string
		trap       int
	}{
		{"WRITE(1 DIV i)", impl.TrZero}, {"WRITE(1 MOD i)", impl.TrZero}, {"WRITE(i DIV (k - 5))", impl.TrZero}, {"i := 7; v[i DIV j] := 1", impl.TrZero},
		{"WRITE(v[3])", impl.TrIndex}, {"WRITE(v[-1])", impl.TrIndex}, {"v[3] := 1", impl.TrIndex}, {"v[i - 1] := 1", impl.TrIndex}, {"w[2] := c", impl.TrIndex}, {"READ(v[9])", impl.TrIndex}, {"WRITE(v[999999999999999999])", impl.TrIndex}, {"WRITE(v[v[0] - 1])", impl.TrIndex},
		{"WRITE(CHR(-1))", impl.TrChar}, {"WRITE(CHR(55296))", impl.TrChar}, {"WRITE(CHR(57343))", impl.TrChar}, {"WRITE(CHR(1114112))", impl.TrChar}, {"c := CHR(i - 1)", impl.TrChar},
		{"READ(i)", impl.TrInput}, {"READ(c)", impl.TrInput}, {"READ(v[2])", impl.TrInput}, {"READ(w[1])", impl.TrInput},
	} {
		wantTrapped(t, c.statements, c.trap, "")
		wantTrapped(t, "WRITE(1); "+c.statements+"; WRITE(2)", c.trap, "1")
	}
	wantTrapped(t, "v[2] := 1; v[0] := 2; WRITE(v[2]); WRITE(v[0]); WRITE(v[i + 3])", impl.TrIndex, "1 2")
	// The address and its index come ahead of the value, a trap in the index ahead of one in the value.
	wantTrapped(t, "v[3] := 1 DIV i", impl.TrIndex, "")
	wantTrapped(t, "v[1 DIV i] := v[3]", impl.TrZero, "")
	wantTrapped(t, "i := 1 DIV i + ORD(CHR(-1))", impl.TrZero, "")
	wantTrapped(t, "i := ORD(CHR(-1)) + 1 DIV i", impl.TrChar, "")
}

func TestResultsThatAreMissing(t *testing.T) {
	for _, c := range []struct {
		proc, statements string
		end, trap        int
		want             string
	}{
		{"PROCEDURE F(): INTEGER; END F;", "WRITE(1); WRITE(F())", impl.EnTrap, impl.TrResult, "1"},
		{"PROCEDURE F(): CHAR; BEGIN WRITE(2) END F;", "WRITE(F())", impl.EnTrap, impl.TrResult, "2"},
		{"PROCEDURE F(n: INTEGER): INTEGER; BEGIN IF n > 0 THEN RETURN n END END F;", "WRITE(F(3)); WRITE(F(0))", impl.EnTrap, impl.TrResult, "3"},
		{"PROCEDURE F(n: INTEGER): INTEGER; BEGIN WHILE n > 0 DO n := n - 1; IF n = 2 THEN RETURN 9 END END END F;", "WRITE(F(3)); WRITE(F(2))", impl.EnTrap, impl.TrResult, "9"},
		{"PROCEDURE F(): BOOLEAN; END F;", "WRITE(FALSE & F())", impl.EnHalt, 0, "FALSE"},
		{"PROCEDURE F(); END F;", "F(); WRITE(1)", impl.EnHalt, 0, "1"},
	} {
		wantWritten(t, []string{"MODULE M; " + c.proc + " BEGIN " + c.statements + " END M."}, nil, c.end, c.trap, c.want)
	}
}

func TestInputsOfModules(t *testing.T) {
	echo := "MODULE M; VAR n: INTEGER; c: CHAR; v: ARRAY 2 OF INTEGER; BEGIN READ(n); READ(c); READ(v[n]); WRITE(n); WRITE(c); WRITE(v[n]); READ(n); WRITE(n) END M."
	wantWritten(t, []string{echo}, []int{1, 233, -5, 8}, impl.EnHalt, 0, "1 \"é\" -5 8")
	wantWritten(t, []string{echo}, []int{1, 233, -5, 8, 9}, impl.EnHalt, 0, "1 \"é\" -5 8")
	wantWritten(t, []string{echo}, []int{1, 233, -5}, impl.EnTrap, impl.TrInput, "1 \"é\" -5")
	wantWritten(t, []string{echo}, []int{1, 55296, -5, 8}, impl.EnTrap, impl.TrInput, "")
	wantWritten(t, []string{echo}, []int{1, -1, -5, 8}, impl.EnTrap, impl.TrInput, "")
	wantWritten(t, []string{echo}, []int{2, 65, -5, 8}, impl.EnTrap, impl.TrIndex, "")
	sum := "MODULE M; VAR n, s: INTEGER; BEGIN READ(n); WHILE n # 0 DO s := s + n; READ(n) END; WRITE(s) END M."
	wantWritten(t, []string{sum}, []int{5, 6, -3, 0}, impl.EnHalt, 0, "8")
	hundred := slices.Repeat([]int{7}, 100)
	wantWritten(t, []string{sum}, hundred, impl.EnTrap, impl.TrInput, "")
	hundred[99] = 0
	wantWritten(t, []string{sum}, hundred, impl.EnHalt, 0, "693")
}

func TestVariableParametersThatRun(t *testing.T) {
	procs := "MODULE M; VAR g: INTEGER; u: ARRAY 4 OF INTEGER; h: CHAR; " +
		"PROCEDURE Add(VAR a: INTEGER; d: INTEGER); BEGIN a := a + d END Add; " +
		"PROCEDURE Swap(VAR a, b: INTEGER); VAR o: INTEGER; BEGIN o := a; a := b; b := o END Swap; " +
		"PROCEDURE Twice(VAR a: INTEGER); BEGIN Add(a, a); Add(a, 1) END Twice; " +
		"PROCEDURE Plain(a: INTEGER); BEGIN a := a + 100; Add(a, 1000); WRITE(a) END Plain; " +
		"PROCEDURE Locals(n: INTEGER); VAR x: INTEGER; v: ARRAY 3 OF INTEGER; y: INTEGER; BEGIN x := 1; y := 2; Swap(x, y); Add(v[2], n); Add(v[n], 7); Twice(v[n]); Add(n, 5); WRITE(x); WRITE(y); WRITE(v[0]); WRITE(v[1]); WRITE(v[2]); WRITE(n) END Locals; " +
		"PROCEDURE In(VAR c: CHAR); BEGIN READ(c) END In; PROCEDURE Deep(VAR c: CHAR); BEGIN In(c) END Deep; " +
		"PROCEDURE Both(VAR a, b: INTEGER); BEGIN a := 1; b := 2; WRITE(a) END Both; BEGIN "
	for _, c := range []struct{ statements, want string }{
		{"Add(g, 4); Add(g, g); WRITE(g)", "8"},
		{"g := 2; u[1] := 5; Swap(g, u[1]); WRITE(g); WRITE(u[1]); Swap(u[1], u[3]); WRITE(u[1]); WRITE(u[3])", "5 2 0 2"},
		{"g := 3; Twice(g); WRITE(g); Twice(u[0]); Twice(u[u[0]]); WRITE(u[0]); WRITE(u[1])", "7 1 1"},
		{"g := 3; Plain(g); WRITE(g)", "1103 3"},
		{"Locals(1)", "2 1 0 15 1 6"},
		{"Locals(2)", "2 1 0 0 19 7"},
		{"Deep(h); WRITE(h); In(h); WRITE(h)", "\"A\" \"B\""},
		{"Both(g, g); WRITE(g); Both(u[2], u[2]); Both(u[2], u[3]); WRITE(u[2]); WRITE(u[3])", "2 2 2 1 1 2"},
		// An element is chosen as the call is made.
		{"g := 1; Swap(g, u[g]); WRITE(g); WRITE(u[0]); WRITE(u[1])", "0 0 1"},
	} {
		wantWritten(t, []string{procs + c.statements + " END M."}, []int{65, 66}, impl.EnHalt, 0, c.want)
	}
	wantWritten(t, []string{procs + "Add(u[4], 1) END M."}, nil, impl.EnTrap, impl.TrIndex, "")
}

func TestRecursion(t *testing.T) {
	procs := "MODULE M; VAR calls: INTEGER; " +
		"PROCEDURE Fac(n: INTEGER): INTEGER; BEGIN IF n < 2 THEN RETURN 1 END; RETURN n * Fac(n - 1) END Fac; " +
		"PROCEDURE Fib(n: INTEGER): INTEGER; BEGIN calls := calls + 1; IF n < 2 THEN RETURN n ELSE RETURN Fib(n - 1) + Fib(n - 2) END END Fib; " +
		"PROCEDURE Down(n: INTEGER; VAR s: INTEGER); VAR own: ARRAY 5 OF INTEGER; BEGIN own[n MOD 5] := n; IF n > 0 THEN Down(n - 1, s) END; s := s + own[n MOD 5] END Down; " +
		"PROCEDURE Write(n: INTEGER); BEGIN IF n > 9 THEN Write(n DIV 10) END; WRITE(CHR(ORD(\"0\") + n MOD 10)) END Write; BEGIN "
	for _, c := range []struct {
		statements string
		end        int
		want       string
	}{
		{"WRITE(Fac(5)); WRITE(Fac(20)); WRITE(Fac(21))", impl.EnHalt, "120 2432902008176640000 -4249290049419214848"},
		{"WRITE(Fib(10)); WRITE(calls)", impl.EnHalt, "55 177"},
		{"Down(10, calls); WRITE(calls)", impl.EnHalt, "55"},
		{"Write(4096)", impl.EnHalt, "\"4\" \"0\" \"9\" \"6\""},
		{"WRITE(Fac(49) # 1); WRITE(1)", impl.EnHalt, "TRUE 1"},
		{"WRITE(1); WRITE(Fac(50)); WRITE(2)", impl.EnRoom, "1"},
		{"Down(48, calls); WRITE(calls); Down(49, calls); WRITE(calls)", impl.EnRoom, "1176"},
	} {
		wantWritten(t, []string{procs + c.statements + " END M."}, nil, c.end, 0, c.want)
	}
	wide := "MODULE M; VAR g: ARRAY 100 OF CHAR; PROCEDURE P(n: INTEGER); VAR a, b, c: ARRAY 100 OF INTEGER; BEGIN WRITE(n); IF n > 1 THEN P(n - 1) END END P; BEGIN "
	// 100 cells and 301 for each: 9 of them have room, 10 have not.
	wantWritten(t, []string{wide + "P(9); P(2) END M."}, nil, impl.EnHalt, 0, "9 8 7 6 5 4 3 2 1 2 1")
	wantWritten(t, []string{wide + "P(10) END M."}, nil, impl.EnRoom, 0, "10 9 8 7 6 5 4 3 2")
}

// moduleA is a module of just the interface that importA is.
const moduleA = "MODULE A; CONST k* = -9; t* = TRUE; c* = 10FFFFX; VAR x*: INTEGER; b*: BOOLEAN; h*: CHAR; v*: ARRAY 3 OF CHAR; w*: ARRAY 1 OF INTEGER; own: INTEGER; " +
	"PROCEDURE F*(VAR a: INTEGER): INTEGER; BEGIN a := a + 1; own := own + a; RETURN own * 2 END F; " +
	"PROCEDURE G*(); BEGIN WRITE(own); x := x - 1; h := CHR(ORD(h) + 1) END G; " +
	"PROCEDURE H*(a: INTEGER; d: CHAR): BOOLEAN; BEGIN RETURN (ORD(d) > a) OR b END H; " +
	"PROCEDURE S*(VAR a: CHAR; d: BOOLEAN); BEGIN IF d THEN a := v[1] ELSE READ(a) END END S; " +
	"BEGIN x := 3; h := \"h\"; v[1] := \"v\"; w[0] := 6; WRITE(\"A\") END A."

func TestModulesWithImportsRun(t *testing.T) {
	if x, code := impl.InterfaceOf(treeOf(t, moduleA), nil); code != impl.OK || !sameInterface(x, importA()) {
		t.Fatal("another interface than is due:", code, x)
	}
	b := "MODULE B; BEGIN WRITE(\"B\") END B."
	for _, c := range []struct{ statements, want string }{
		{"", "\"A\" \"B\" 7"},
		{"WRITE(A.x); WRITE(A.h); WRITE(A.v[1]); WRITE(A.v[0]); WRITE(A.w[0]); WRITE(A.k); WRITE(A.t); WRITE(A.c); WRITE(A.b)", "\"A\" \"B\" 7 3 \"h\" \"v\" 00X 6 -9 TRUE \"\U0010FFFF\" FALSE"},
		{"A.G(); A.G(); WRITE(A.x); WRITE(A.h)", "\"A\" \"B\" 7 0 0 1 \"j\""},
		{"i := 4; WRITE(A.F(i)); WRITE(i); WRITE(A.F(v[1])); WRITE(v[1]); WRITE(own)", "\"A\" \"B\" 7 10 5 12 1 7"},
		{"WRITE(A.H(64, \"A\")); WRITE(A.H(65, \"A\")); A.S(c, TRUE); WRITE(c); A.S(c, A.H(99, c)); WRITE(c); A.S(c, FALSE); WRITE(c)", "\"A\" \"B\" 7 TRUE FALSE \"v\" \"v\" \"q\""},
		{"WRITE(LEN(A.v)); WRITE(A.x + LEN(A.w)); x := 1; WRITE(x + A.x)", "\"A\" \"B\" 7 3 4 4"},
	} {
		m := "MODULE M; IMPORT B, A; VAR own, i, x: INTEGER; c: CHAR; v: ARRAY 2 OF INTEGER; PROCEDURE G(); BEGIN own := 7 END G; BEGIN G(); WRITE(own); " + c.statements + " END M."
		wantWritten(t, []string{moduleA, b, strings.Replace(m, "B, A", "A, B", 1)}, []int{113}, impl.EnHalt, 0, c.want)
		wantWritten(t, []string{moduleA, b, m}, []int{113}, impl.EnHalt, 0, strings.Replace(c.want, "\"A\" \"B\"", "\"B\" \"A\"", 1))
	}
	// One that several need runs once, ahead of them; one that reads goes on where the one ahead stopped.
	base := "MODULE Base; VAR n*: INTEGER; PROCEDURE Next*(): INTEGER; BEGIN n := n + 1; RETURN n END Next; BEGIN READ(n); WRITE(n) END Base."
	left := "MODULE Left; IMPORT Base; VAR l*, m: INTEGER; BEGIN l := Base.Next(); READ(m); WRITE(l); WRITE(m) END Left."
	right := "MODULE Right; IMPORT Base; VAR l*, m: INTEGER; BEGIN l := Base.Next(); READ(m); WRITE(l); WRITE(m) END Right."
	wantWritten(t, []string{base, left, right, "MODULE M; IMPORT Right, Left, Base; BEGIN WRITE(Left.l * 100 + Right.l); WRITE(Base.n) END M."}, []int{10, 20, 30}, impl.EnHalt, 0, "10 11 20 12 30 1211 12")
	wantWritten(t, []string{base, left, right, "MODULE M; IMPORT Left; BEGIN WRITE(Left.l) END M."}, []int{10, 20, 30}, impl.EnHalt, 0, "10 11 20 11")
	wantWritten(t, []string{base, "MODULE M; IMPORT Base; BEGIN RETURN END M."}, nil, impl.EnTrap, impl.TrInput, "")
	// A RETURN ends its own body alone.
	wantWritten(t, []string{"MODULE A; BEGIN WRITE(1); RETURN; WRITE(2) END A.", "MODULE M; IMPORT A; BEGIN WRITE(3) END M."}, nil, impl.EnHalt, 0, "1 3")
}

// What was compiled against another interface is not linked.
func TestModulesCompiledAgainstAnotherInterface(t *testing.T) {
	compile := func(text string, faces ...impl.Interface) (impl.Object, impl.Interface) {
		tree := treeOf(t, text)
		o, code, _ := impl.Compile(tree, faces)
		x, _ := impl.InterfaceOf(tree, faces)
		if code != impl.OK {
			t.Fatal("code", code)
		}
		return o, x
	}
	first, firstFace := compile("MODULE A; CONST c* = 1; END A.")
	second, secondFace := compile("MODULE A; CONST c* = 2; END A.")
	alike, _ := compile("MODULE A; CONST c* = 1; VAR x: CHAR; BEGIN WRITE(x) END A.")
	m, _ := compile("MODULE M; IMPORT A; BEGIN WRITE(A.c) END M.", firstFace)
	n, _ := compile("MODULE M; IMPORT A; BEGIN WRITE(A.c) END M.", secondFace)
	for _, c := range []struct {
		main, a impl.Object
		code    int
	}{{m, first, impl.OK}, {m, alike, impl.OK}, {n, second, impl.OK}, {m, second, impl.ErrPrint}, {n, first, impl.ErrPrint}, {n, alike, impl.ErrPrint}} {
		if _, module, code := wantLink(t, []impl.Object{c.main, c.a}, "M"); code != c.code || code != impl.OK && module != "M" {
			t.Errorf("%v: code %d of %q", c, code, module)
		}
	}
}

// Promise 6: objects of modules that check are linked, within the bounds, behind those that they need, and run.
func TestRandomModulesRun(t *testing.T) {
	source := rand.New(rand.NewSource(24))
	ends := map[[2]int]int{}
	tell := 0
	b := treeOf(t, "MODULE B; BEGIN WRITE(5) END B.")
	for range 2500 {
		tree := checkedModule(source)
		if code, _ := impl.Check(tree, someImports()); code != impl.OK {
			continue
		}
		x, code := linkedTrees(t, treeOf(t, moduleA), b, tree)
		if code == impl.ErrSize {
			continue
		}
		if code != impl.OK || x.Names[len(x.Names)-1] != "M." || len(x.Start) != 3 {
			t.Fatal("code", code, x.Names)
		}
		var input []int
		for range source.Intn(8) {
			input = append(input, source.Intn(200))
		}
		r := wantRun(t, x, input, 100+source.Intn(3000))
		ends[[2]int{r.End, r.Trap}]++
		if _, code := impl.OutText(r.Out); code != impl.OK {
			t.Error("what a module tells is none:", code, r.Out)
		}
		if len(r.Out) > 2 { // those of A and B
			tell++
		}
		if t.Failed() {
			return
		}
	}
	wantEnds(t, ends)
	if tell < 300 {
		t.Error("too few tell something of their own:", tell)
	}
}

// wantEnds asks that of runs of modules some end in each way.
func wantEnds(t *testing.T, ends map[[2]int]int) {
	t.Helper()
	for _, end := range [][2]int{{impl.EnHalt, 0}, {impl.EnFuel, 0}, {impl.EnTrap, 1}, {impl.EnTrap, 2}, {impl.EnTrap, 3}, {impl.EnTrap, 4}, {impl.EnTrap, 5}} {
		if ends[end] < 10 {
			t.Error("so many end so:", ends)
			return
		}
	}
}
