package tests

import (
	"hash/fnv"
	"math/rand"
	"reflect"
	"slices"
	"strconv"
	"strings"
	"testing"

	"loop.example/g00168/impl"
)

// coder is a reading of chapter 5 of the tests' own. It puts pieces of code together, whose jumps tell how far they go.
type coder struct {
	*rules
	cells map[string]int // of the procedure that it is in
}

// codeByRules is the object of a module that checks.
func codeByRules(tree impl.Node, imports []impl.Interface) impl.Object {
	c := &coder{rules: &rules{places: map[*impl.Node]int{}, module: tree.Name, imports: map[string]impl.Interface{}, outer: map[string]known{}}}
	for _, x := range imports {
		c.imports[x.Module] = x
	}
	o := impl.Object{Module: tree.Name}
	for i := range tree.Kids {
		kid := &tree.Kids[i]
		if kid.Kind != impl.NdBlock {
			c.part(kid)
		}
		switch kid.Kind {
		case impl.NdImport:
			o.Needs = append(o.Needs, impl.Need{Module: kid.Name, Print: printByRule(c.imports[kid.Name])})
		case impl.NdVar:
			o.Globals = append(o.Globals, impl.Global{Name: kid.Name, Length: c.outer[kid.Name].item.Length})
		case impl.NdProc:
			o.Procs = append(o.Procs, c.procedureCode(kid))
		case impl.NdBlock:
			o.Procs = append(o.Procs, impl.Code{List: whole(c.block(kid), end())})
		}
	}
	o.Print = printByRule(impl.Interface{Module: tree.Name, Items: c.items})
	return o
}

func printByRule(x impl.Interface) int {
	sum := fnv.New32a()
	sum.Write(writtenInterface(x))
	return int(sum.Sum32())
}

func (c *coder) procedureCode(n *impl.Node) impl.Code {
	c.inner, c.cells = map[string]known{}, map[string]int{}
	proc := impl.Code{Name: n.Name}
	last := end()
	for i := range n.Kids {
		kid := &n.Kids[i]
		switch kid.Kind {
		case impl.NdParam:
			proc.Params++
			c.part(kid)
			k := c.inner[kid.Name]
			k.item.Value = kid.N // whether its address stands there
			c.inner[kid.Name] = k
			c.cells[kid.Name] = proc.Cells
			proc.Cells++
		case impl.NdResult:
			if kid.N != impl.TyNone {
				proc.Result, last = 1, ins(impl.OpTrap, 5)
			}
		case impl.NdVar:
			c.part(kid)
			c.cells[kid.Name] = proc.Cells
			proc.Cells += max(c.inner[kid.Name].item.Length, 1)
		case impl.NdBlock:
			proc.List = whole(c.block(kid), last)
		}
	}
	c.inner, c.cells = nil, nil
	return proc
}

// whole has jumps that tell where they go.
func whole(list []impl.Ins, last impl.Ins) []impl.Ins {
	for at := range list {
		if list[at].Op == impl.OpJump || list[at].Op == impl.OpJumpFalse {
			list[at].A += at
		}
	}
	return append(list, last)
}

func (c *coder) block(n *impl.Node) []impl.Ins {
	var list []impl.Ins
	for i := range n.Kids {
		list = append(list, c.statementCode(&n.Kids[i])...)
	}
	return list
}

func one(op, a int) []impl.Ins { return []impl.Ins{ins(op, a)} }

func (c *coder) statementCode(n *impl.Node) []impl.Ins {
	switch n.Kind {
	case impl.NdAssign:
		return slices.Concat(c.address(&n.Kids[0]), c.value(&n.Kids[1]), one(impl.OpStore, 0))
	case impl.NdCall:
		return c.value(n)
	case impl.NdReturn:
		if len(n.Kids) == 0 {
			return one(impl.OpReturn, 0)
		}
		return slices.Concat(c.value(&n.Kids[0]), one(impl.OpReturn, 1))
	case impl.NdWrite:
		return slices.Concat(c.value(&n.Kids[0]), one(impl.OpWrite, c.typeOf(&n.Kids[0])))
	case impl.NdRead:
		return slices.Concat(c.address(&n.Kids[0]), one(impl.OpRead, c.typeOf(&n.Kids[0])))
	}
	test, block := c.value(&n.Kids[0]), c.block(&n.Kids[1])
	switch {
	case n.Kind == impl.NdWhile:
		return slices.Concat(test, one(impl.OpJumpFalse, len(block)+2), block, one(impl.OpJump, -len(block)-1-len(test)))
	case len(n.Kids) == 2:
		return slices.Concat(test, one(impl.OpJumpFalse, len(block)+1), block)
	}
	other := c.block(&n.Kids[2])
	return slices.Concat(test, one(impl.OpJumpFalse, len(block)+2), block, one(impl.OpJump, len(other)+1), other)
}

func (c *coder) address(n *impl.Node) []impl.Ins {
	if n.Kind == impl.NdIndex {
		return slices.Concat(c.address(&n.Kids[0]), c.value(&n.Kids[1]), one(impl.OpIndex, c.what(&n.Kids[0]).item.Length))
	}
	k := c.what(n)
	switch _, local := c.inner[n.Name]; {
	case n.Of != "":
		return []impl.Ins{{Op: impl.OpGlobal, Mod: n.Of, Name: n.Name}}
	case !local:
		return []impl.Ins{{Op: impl.OpGlobal, Mod: c.module, Name: n.Name}}
	case k.item.Value == 1:
		return append(one(impl.OpLocal, c.cells[n.Name]), ins(impl.OpLoad, 0))
	}
	return one(impl.OpLocal, c.cells[n.Name])
}

func (c *coder) value(n *impl.Node) []impl.Ins {
	switch n.Kind {
	case impl.NdInt, impl.NdChar, impl.NdBool:
		return one(impl.OpPush, n.N)
	case impl.NdLen:
		return one(impl.OpPush, c.what(&n.Kids[0]).item.Length)
	case impl.NdName:
		if k := c.what(n); k.what == 'c' {
			return one(impl.OpPush, k.item.Value)
		}
		return append(c.address(n), ins(impl.OpLoad, 0))
	case impl.NdIndex:
		return append(c.address(n), ins(impl.OpLoad, 0))
	case impl.NdCall:
		return c.callCode(n)
	}
	first := c.value(&n.Kids[0])
	switch {
	case n.Kind == impl.NdOrd:
		return first
	case n.Kind == impl.NdChr:
		return append(first, ins(impl.OpChr, 0))
	case n.Kind == impl.NdUnary && n.Name == "-":
		return append(first, ins(impl.OpNeg, 0))
	case n.Kind == impl.NdUnary:
		return append(first, ins(impl.OpNot, 0))
	}
	second := c.value(&n.Kids[1])
	switch n.Name {
	case "&":
		return slices.Concat(first, one(impl.OpJumpFalse, len(second)+2), second, one(impl.OpJump, 2), one(impl.OpPush, 0))
	case "OR":
		return slices.Concat(first, one(impl.OpJumpFalse, 3), one(impl.OpPush, 1), one(impl.OpJump, len(second)+1), second)
	}
	return slices.Concat(first, second, one(impl.OpWork, slices.Index(strings.Fields(documentWorkSigns), n.Name)))
}

func (c *coder) callCode(n *impl.Node) []impl.Ins {
	var list []impl.Ins
	k := c.what(n)
	for i, param := range k.item.Params {
		if param.ByVar {
			list = append(list, c.address(&n.Kids[i])...)
		} else {
			list = append(list, c.value(&n.Kids[i])...)
		}
	}
	i := impl.Ins{Op: impl.OpCall, A: len(n.Kids), Mod: n.Of, Name: n.Name}
	if n.Of == "" {
		i.Mod = c.module
	}
	if k.item.Type != impl.TyNone {
		i.B = 1
	}
	return append(list, i)
}

// wantCompiled holds Compile against the tests' own reading, and all that is promised of what it makes; it answers the code.
func wantCompiled(t *testing.T, tree impl.Node, imports []impl.Interface) int {
	t.Helper()
	before := copyTree(tree)
	o, code, place := impl.Compile(tree, imports)
	wantCode, wantPlace := impl.Check(tree, imports)
	var want impl.Object
	if wantCode == impl.OK {
		want = codeByRules(tree, imports)
		if !rightObject(want) {
			want, wantCode, wantPlace = impl.Object{}, impl.ErrSize, 0
		}
	}
	if code != wantCode || place != wantPlace || !sameObject(o, want) {
		text, _ := impl.Print(tree)
		t.Errorf("Compile: code %d at %d, want %d at %d\n%v\n%v\n%.3000s", code, place, wantCode, wantPlace, o, want, text)
	}
	if code != impl.OK && !noObject(o) {
		t.Errorf("Compile: code %d and %v", code, o)
	}
	if code == impl.OK && !wantObject(t, o) {
		t.Error("what is compiled is not right:", o)
	}
	for _, proc := range o.Procs {
		if wantVerified(t, proc) != impl.OK {
			t.Error("what is compiled does not verify:", proc)
		}
	}
	if !reflect.DeepEqual(copyTree(tree), before) {
		t.Error("a tree is changed")
	}
	return code
}

// shortListing is a code's listing with | between what is listed, without the numbers ahead.
func shortListing(t *testing.T, c impl.Code) string {
	t.Helper()
	text, code := impl.Listing(c)
	if code != impl.OK {
		t.Errorf("Listing(%v): code %d", c, code)
	}
	lines := strings.Split(strings.TrimSuffix(text, "\n"), "\n")
	for at := range lines {
		lines[at] = strings.TrimPrefix(lines[at], strconv.Itoa(at)+" ")
	}
	return strings.Join(lines, "|")
}

// wantCode asks for the listing of the code at that place, -1 for the body.
func wantCode(t *testing.T, text string, at int, want string) {
	t.Helper()
	tree := treeOf(t, text)
	o, code, place := impl.Compile(tree, someImports())
	if code != impl.OK || place != 0 {
		t.Errorf("Compile(%.900q): code %d at %d", text, code, place)
		return
	}
	if at < 0 {
		at = len(o.Procs) - 1
	}
	if got := shortListing(t, o.Procs[at]); got != want {
		t.Errorf("Compile(%.900q):\n%s\nwant\n%s", text, got, want)
	}
	wantCompiled(t, tree, someImports())
}

// wantStatements has statements in the body of a module with something of each kind.
func wantStatements(t *testing.T, statements, want string) {
	t.Helper()
	wantCode(t, withGiven(statements), -1, want)
}

// wantValue has an expression that is told.
func wantValue(t *testing.T, value, want string) {
	t.Helper()
	wantStatements(t, "WRITE("+value+")", want+"|return")
}

func TestCompiledValues(t *testing.T) {
	wantValue(t, "7", "push 7|write 1")
	wantValue(t, "0", "push 0|write 1")
	wantValue(t, "999999999999999999", "push 999999999999999999|write 1")
	wantValue(t, "\"é\"", "push 233|write 3")
	wantValue(t, "10FFFFX", "push 1114111|write 3")
	wantValue(t, "TRUE", "push 1|write 2")
	wantValue(t, "FALSE", "push 0|write 2")
	wantValue(t, "k", "push 5|write 1")
	wantValue(t, "kb", "push 1|write 2")
	wantValue(t, "kc", "push 99|write 3")
	wantValue(t, "A.k", "push -9|write 1")
	wantValue(t, "A.t", "push 1|write 2")
	wantValue(t, "A.c", "push 1114111|write 3")
	wantValue(t, "i", "global M.i|load|write 1")
	wantValue(t, "b", "global M.b|load|write 2")
	wantValue(t, "c", "global M.c|load|write 3")
	wantValue(t, "A.x", "global A.x|load|write 1")
	wantValue(t, "A.h", "global A.h|load|write 3")
	wantValue(t, "v[1]", "global M.v|push 1|index 3|load|write 1")
	wantValue(t, "w[v[i]]", "global M.w|global M.v|global M.i|load|index 3|load|index 2|load|write 3")
	wantValue(t, "A.v[k]", "global A.v|push 5|index 3|load|write 3")
	wantValue(t, "A.w[A.x]", "global A.w|global A.x|load|index 1|load|write 1")
	wantValue(t, "LEN(v)", "push 3|write 1")
	wantValue(t, "LEN(A.w)", "push 1|write 1")
	wantValue(t, "-i", "global M.i|load|neg|write 1")
	wantValue(t, "- -3", "push 3|neg|neg|write 1")
	wantValue(t, "~b", "global M.b|load|not|write 2")
	wantValue(t, "~(i = j)", "global M.i|load|global M.j|load|work =|not|write 2")
	wantValue(t, "ORD(c)", "global M.c|load|write 1")
	wantValue(t, "CHR(i)", "global M.i|load|chr|write 3")
	wantValue(t, "CHR(ORD(CHR(1)))", "push 1|chr|chr|write 3")
	wantValue(t, "CHR(55296)", "push 55296|chr|write 3")
	wantValue(t, "1 + 2 * 3", "push 1|push 2|push 3|work *|work +|write 1")
	wantValue(t, "(1 + 2) * 3", "push 1|push 2|work +|push 3|work *|write 1")
	wantValue(t, "1 DIV 0", "push 1|push 0|work DIV|write 1")
	wantValue(t, "F()", "call M.F 0 1|write 1")
	wantValue(t, "F() - F()", "call M.F 0 1|call M.F 0 1|work -|write 1")
	wantValue(t, "Q(1 + i, c)", "push 1|global M.i|load|work +|global M.c|call M.Q 2 1|write 2")
	wantValue(t, "Q(i, w[i])", "global M.i|load|global M.w|global M.i|load|index 2|call M.Q 2 1|write 2")
	wantValue(t, "A.F(i)", "global M.i|call A.F 1 1|write 1")
	wantValue(t, "A.F(v[0])", "global M.v|push 0|index 3|call A.F 1 1|write 1")
	wantValue(t, "A.H(A.F(i), kc)", "global M.i|call A.F 1 1|push 99|call A.H 2 1|write 2")
	for _, sign := range []string{"+", "-", "*", "DIV", "MOD"} {
		wantValue(t, "i "+sign+" 2", "global M.i|load|push 2|work "+sign+"|write 1")
	}
	for _, sign := range []string{"=", "#", "<", "<=", ">", ">="} {
		wantValue(t, "i "+sign+" 2", "global M.i|load|push 2|work "+sign+"|write 2")
		wantValue(t, "\"a\" "+sign+" c", "push 97|global M.c|load|work "+sign+"|write 2")
	}
	wantValue(t, "b = TRUE", "global M.b|load|push 1|work =|write 2")
	wantValue(t, "b # kb", "global M.b|load|push 1|work #|write 2")
}

// The right side is worked out only where the left one leaves it open.
func TestCompiledAndOr(t *testing.T) {
	wantValue(t, "b & kb", "global M.b|load|jumpfalse 5|push 1|jump 6|push 0|write 2")
	wantValue(t, "b OR kb", "global M.b|load|jumpfalse 5|push 1|jump 6|push 1|write 2")
	wantValue(t, "TRUE & FALSE", "push 1|jumpfalse 4|push 0|jump 5|push 0|write 2")
	wantValue(t, "FALSE OR Q(1, c)", "push 0|jumpfalse 4|push 1|jump 7|push 1|global M.c|call M.Q 2 1|write 2")
	wantValue(t, "b & kb & A.b", "global M.b|load|jumpfalse 5|push 1|jump 6|push 0|jumpfalse 10|global A.b|load|jump 11|push 0|write 2")
	wantValue(t, "b & (kb & A.b)", "global M.b|load|jumpfalse 10|push 1|jumpfalse 8|global A.b|load|jump 9|push 0|jump 11|push 0|write 2")
	wantValue(t, "b OR kb OR A.b", "global M.b|load|jumpfalse 5|push 1|jump 6|push 1|jumpfalse 9|push 1|jump 11|global A.b|load|write 2")
	wantValue(t, "b OR (kb OR A.b)", "global M.b|load|jumpfalse 5|push 1|jump 11|push 1|jumpfalse 9|push 1|jump 11|global A.b|load|write 2")
	wantValue(t, "b & (kb OR A.b)", "global M.b|load|jumpfalse 10|push 1|jumpfalse 7|push 1|jump 9|global A.b|load|jump 11|push 0|write 2")
	wantValue(t, "b OR kb & A.b", "global M.b|load|jumpfalse 5|push 1|jump 11|push 1|jumpfalse 10|global A.b|load|jump 11|push 0|write 2")
	wantValue(t, "~(b & ~kb)", "global M.b|load|jumpfalse 6|push 1|not|jump 7|push 0|not|write 2")
	wantValue(t, "(b & kb) = (b OR kb)", "global M.b|load|jumpfalse 5|push 1|jump 6|push 0|global M.b|load|jumpfalse 11|push 1|jump 12|push 1|work =|write 2")
	wantStatements(t, "v[ORD(CHR(1))] := 2; A.S(c, b & kb); b := Q(1, w[0]) & b",
		"global M.v|push 1|chr|index 3|push 2|store|global M.c|global M.b|load|jumpfalse 12|push 1|jump 13|push 0|call A.S 2 0|"+
			"global M.b|push 1|global M.w|push 0|index 2|call M.Q 2 1|jumpfalse 24|global M.b|load|jump 25|push 0|store|return")
}

func TestCompiledStatements(t *testing.T) {
	wantStatements(t, "", "return")
	wantStatements(t, "i := 1", "global M.i|push 1|store|return")
	wantStatements(t, "v[i] := v[j]", "global M.v|global M.i|load|index 3|global M.v|global M.j|load|index 3|load|store|return")
	wantStatements(t, "w[0] := kc", "global M.w|push 0|index 2|push 99|store|return")
	wantStatements(t, "P()", "call M.P 0 0|return")
	wantStatements(t, "A.G(); P()", "call A.G 0 0|call M.P 0 0|return")
	wantStatements(t, "R(i); R(v[2]); A.S(w[1], TRUE)", "global M.i|call M.R 1 0|global M.v|push 2|index 3|call M.R 1 0|global M.w|push 1|index 2|push 1|call A.S 2 0|return")
	wantStatements(t, "READ(i); READ(c); READ(v[0]); READ(w[i])", "global M.i|read 1|global M.c|read 3|global M.v|push 0|index 3|read 1|global M.w|global M.i|load|index 2|read 3|return")
	wantStatements(t, "RETURN", "return|return")
	wantStatements(t, "RETURN; WRITE(1); RETURN", "return|push 1|write 1|return|return")
}

func TestCompiledIfs(t *testing.T) {
	wantStatements(t, "IF b THEN P() END", "global M.b|load|jumpfalse 4|call M.P 0 0|return")
	wantStatements(t, "IF b THEN END", "global M.b|load|jumpfalse 3|return")
	wantStatements(t, "IF b THEN P() ELSE A.G() END", "global M.b|load|jumpfalse 5|call M.P 0 0|jump 6|call A.G 0 0|return")
	wantStatements(t, "IF b THEN P() ELSE END", "global M.b|load|jumpfalse 5|call M.P 0 0|jump 5|return")
	wantStatements(t, "IF b THEN ELSE END; P()", "global M.b|load|jumpfalse 4|jump 4|call M.P 0 0|return")
	wantStatements(t, "IF b THEN P() ELSIF kb THEN A.G() ELSE RETURN END", "global M.b|load|jumpfalse 5|call M.P 0 0|jump 10|push 1|jumpfalse 9|call A.G 0 0|jump 10|return|return")
	wantStatements(t, "IF b THEN IF kb THEN P() END END", "global M.b|load|jumpfalse 6|push 1|jumpfalse 6|call M.P 0 0|return")
	wantStatements(t, "IF b THEN IF kb THEN P() ELSE A.G() END ELSE IF A.t THEN P() END; P() END",
		"global M.b|load|jumpfalse 9|push 1|jumpfalse 7|call M.P 0 0|jump 8|call A.G 0 0|jump 13|push 1|jumpfalse 12|call M.P 0 0|call M.P 0 0|return")
	wantStatements(t, "IF b & kb THEN P() END", "global M.b|load|jumpfalse 5|push 1|jump 6|push 0|jumpfalse 8|call M.P 0 0|return")
}

func TestCompiledWhiles(t *testing.T) {
	wantStatements(t, "WHILE b DO P() END", "global M.b|load|jumpfalse 5|call M.P 0 0|jump 0|return")
	wantStatements(t, "P(); WHILE b DO END; P()", "call M.P 0 0|global M.b|load|jumpfalse 5|jump 1|call M.P 0 0|return")
	wantStatements(t, "WHILE TRUE DO RETURN END", "push 1|jumpfalse 4|return|jump 0|return")
	wantStatements(t, "WHILE b DO WHILE kb DO P() END; IF A.t THEN A.G() END END", "global M.b|load|jumpfalse 11|push 1|jumpfalse 7|call M.P 0 0|jump 3|push 1|jumpfalse 10|call A.G 0 0|jump 0|return")
	wantStatements(t, "WHILE b OR kb DO READ(i) END", "global M.b|load|jumpfalse 5|push 1|jump 6|push 1|jumpfalse 10|global M.i|read 1|jump 0|return")
}

func TestCompiledProcedures(t *testing.T) {
	for _, c := range []struct {
		text                  string
		params, cells, result int
		want                  string
	}{
		{"PROCEDURE P(); END P;", 0, 0, 0, "return"},
		{"PROCEDURE P(): INTEGER; END P;", 0, 0, 1, "trap 5"},
		{"PROCEDURE P(): CHAR; BEGIN RETURN \"a\" END P;", 0, 0, 1, "push 97|return|trap 5"},
		{"PROCEDURE P(); BEGIN RETURN END P;", 0, 0, 0, "return|return"},
		{"PROCEDURE P(a: INTEGER; VAR b: INTEGER): INTEGER; BEGIN b := a END P;", 2, 2, 1, "local 1|load|local 0|load|store|trap 5"},
		{"PROCEDURE P(VAR a, b: INTEGER); BEGIN a := b END P;", 2, 2, 0, "local 0|load|local 1|load|load|store|return"},
		{"PROCEDURE P(VAR a: CHAR); BEGIN READ(a); WRITE(a) END P;", 1, 1, 0, "local 0|load|read 3|local 0|load|load|write 3|return"},
		{"PROCEDURE P(a: CHAR); BEGIN READ(a); WRITE(a) END P;", 1, 1, 0, "local 0|read 3|local 0|load|write 3|return"},
		{"PROCEDURE P(); VAR x, y: INTEGER; BEGIN x := y END P;", 0, 2, 0, "local 0|local 1|load|store|return"},
		{"PROCEDURE P(a, b: CHAR); VAR v: ARRAY 7 OF CHAR; x: CHAR; w: ARRAY 100 OF INTEGER; y: CHAR; BEGIN x := v[w[3]]; y := b; w[LEN(v)] := LEN(w) END P;", 2, 111, 0,
			"local 9|local 2|local 10|push 3|index 100|load|index 7|load|store|local 110|local 1|load|store|local 10|push 7|index 100|push 100|store|return"},
		{"PROCEDURE P(); VAR v: ARRAY 1 OF CHAR; w: ARRAY 1 OF CHAR; BEGIN READ(w[0]) END P;", 0, 2, 0, "local 1|push 0|index 1|read 3|return"},
		// A variable, an element and a VAR parameter handed on.
		{"PROCEDURE P(VAR a: INTEGER; b: INTEGER); VAR v: ARRAY 2 OF INTEGER; BEGIN P(a, a); P(b, b); P(v[1], v[b]); P(g, g); P(u[a], 1) END P;", 2, 4, 0,
			"local 0|load|local 0|load|load|call M.P 2 0|local 1|local 1|load|call M.P 2 0|local 2|push 1|index 2|local 2|local 1|load|index 2|load|call M.P 2 0|" +
				"global M.g|global M.g|load|call M.P 2 0|global M.u|local 0|load|load|index 4|push 1|call M.P 2 0|return"},
		{"PROCEDURE P(VAR a: INTEGER): INTEGER; BEGIN RETURN P(a) + A.F(a) + A.F(u[0]) END P;", 1, 1, 1,
			"local 0|load|call M.P 1 1|local 0|load|call A.F 1 1|work +|global M.u|push 0|index 4|call A.F 1 1|work +|return|trap 5"},
		// What a procedure gives hides what the module gives.
		{"PROCEDURE P(g: CHAR); VAR u: INTEGER; P: BOOLEAN; BEGIN g := \"a\"; u := 1; P := kk END P;", 1, 3, 0, "local 0|push 97|store|local 1|push 1|store|local 2|push 1|store|return"},
		{"PROCEDURE P(); VAR kk: INTEGER; BEGIN WRITE(kk); WRITE(g); WRITE(A.x) END P;", 0, 1, 0, "local 0|load|write 1|global M.g|load|write 1|global A.x|load|write 1|return"},
		{"PROCEDURE P(x, h, k: INTEGER); VAR v: ARRAY 9 OF INTEGER; BEGIN x := A.x; WRITE(A.h); WRITE(A.k); WRITE(A.v[x]); WRITE(LEN(A.v) + LEN(v)) END P;", 3, 12, 0,
			"local 0|global A.x|load|store|global A.h|load|write 3|push -9|write 1|global A.v|local 0|load|index 3|load|write 3|push 3|push 9|work +|write 1|return"},
		{"PROCEDURE P(): INTEGER; VAR b: BOOLEAN; BEGIN IF b THEN RETURN 1 ELSE WHILE b & kk DO RETURN 2 END END END P;", 0, 1, 1,
			"local 0|load|jumpfalse 6|push 1|return|jump 16|local 0|load|jumpfalse 11|push 1|jump 12|push 0|jumpfalse 16|push 2|return|jump 6|trap 5"},
	} {
		text := "MODULE M; IMPORT A; CONST kk = TRUE; VAR g: INTEGER; u: ARRAY 4 OF INTEGER; PROCEDURE O(); END O; " + c.text + " BEGIN g := 1; O() END M."
		wantCode(t, text, 1, c.want)
		wantCode(t, text, 0, "return")
		wantCode(t, text, 2, "global M.g|push 1|store|call M.O 0 0|return")
		o, _, _ := impl.Compile(treeOf(t, text), someImports())
		if len(o.Procs) != 3 {
			t.Fatal("so many procedures:", len(o.Procs))
		}
		if got := o.Procs[1]; got.Name != "P" || got.Params != c.params || got.Cells != c.cells || got.Result != c.result {
			t.Errorf("Compile(%.600q): %v", text, got)
		}
	}
}

func TestCompiledModules(t *testing.T) {
	print := func(text string) int {
		x, code := impl.InterfaceOf(treeOf(t, text), someImports())
		if code != impl.OK {
			t.Fatal("code", code)
		}
		return printByRule(x)
	}
	for _, c := range []struct {
		text string
		want impl.Object
	}{
		{"MODULE M; END M.", impl.Object{Module: "M"}},
		{"MODULE Other; IMPORT B, A; END Other.", impl.Object{Module: "Other", Needs: []impl.Need{{Module: "B", Print: 0x38fe665d}, {Module: "A", Print: printByRule(importA())}}}},
		{"MODULE M; IMPORT A; CONST c* = A.k; d = 2; END M.", impl.Object{Module: "M", Needs: []impl.Need{{Module: "A", Print: printByRule(importA())}}}},
		{"MODULE M; VAR a, b*: CHAR; c: ARRAY 1 OF CHAR; d*: ARRAY 100 OF BOOLEAN; END M.", impl.Object{Module: "M", Globals: []impl.Global{{Name: "a"}, {Name: "b"}, {Name: "c", Length: 1}, {Name: "d", Length: 100}}}},
		{"MODULE M; VAR M: CHAR; END M.", impl.Object{Module: "M", Globals: []impl.Global{{Name: "M"}}}},
	} {
		c.want.Print = print(c.text)
		c.want.Procs = []impl.Code{bodyCode(end())}
		o, code, place := impl.Compile(treeOf(t, c.text), someImports())
		if code != impl.OK || place != 0 || !sameObject(o, c.want) {
			t.Errorf("Compile(%q): %v, code %d at %d, want %v", c.text, o, code, place, c.want)
		}
		wantCompiled(t, treeOf(t, c.text), someImports())
	}
	// What is exported tells the print, the bodies do not.
	first, second := print("MODULE M; CONST c* = 1; END M."), print("MODULE M; CONST c* = 2; END M.")
	o, _, _ := impl.Compile(treeOf(t, "MODULE M; CONST c* = 1; VAR x: CHAR; PROCEDURE P(); END P; BEGIN WRITE(c) END M."), nil)
	if first == second || o.Print != first {
		t.Error("prints:", first, second, o.Print)
	}
	plain, code := impl.ObjectBytes(impl.Object{Module: "M", Print: o.Print, Procs: o.Procs, Globals: o.Globals})
	again, form := impl.ReadObject(plain)
	if code != impl.OK || form != impl.OK || !sameObject(again, o) {
		t.Error("read back:", code, form, again)
	}
}

// Constants that are negative, and those of 64 bits, stand in code as they are.
func TestCompiledConstants(t *testing.T) {
	text := "MODULE M; " + constantsAhead + "minus = -7; no = ~yes; up = CHR(1114111); BEGIN WRITE(minus); WRITE(huge); WRITE(least); WRITE(-least); WRITE(no); WRITE(up); WRITE(big); WRITE(A.k + minus) END M."
	wantCode(t, text, -1, "push -7|write 1|push 9223372036854775807|write 1|push -9223372036854775808|write 1|push -9223372036854775808|neg|write 1|push 0|write 2|push 1114111|write 3|push 999999999999999999|write 1|push -9|push -7|work +|write 1|return")
}

func TestCompiledFaults(t *testing.T) {
	for _, c := range []struct {
		text        string
		code, place int
	}{
		{"MODULE M; IMPORT C; END M.", impl.ErrNone, 1},
		{"MODULE M; IMPORT M; END M.", impl.ErrCycle, 1},
		{"MODULE M; CONST c = 1 DIV 0; END M.", impl.ErrRange, 2},
		{"MODULE M; BEGIN y := 1 END M.", impl.ErrName, 3},
		{"MODULE M; VAR x: CHAR; x: CHAR; END M.", impl.ErrTwice, 3},
		{"MODULE M; BEGIN RETURN 1 END M.", impl.ErrResult, 2},
		{"MODULE M; PROCEDURE P(); VAR x*: CHAR; END P; END M.", impl.ErrPlace, 3},
	} {
		tree := treeOf(t, c.text)
		if o, code, place := impl.Compile(tree, someImports()); code != c.code || place != c.place || !noObject(o) {
			t.Errorf("Compile(%q): code %d at %d, %v", c.text, code, place, o)
		}
	}
	good := treeOf(t, "MODULE M; END M.")
	for _, c := range []struct {
		name    string
		tree    impl.Node
		imports []impl.Interface
		code    int
	}{
		{"no tree", impl.Node{}, nil, impl.ErrBad},
		{"a block", blockNode(), nil, impl.ErrBad},
		{"a word for a name", namedNode(impl.NdModule, 0, "END", blockNode()), nil, impl.ErrBad},
		{"an import twice", good, []impl.Interface{{Module: "A"}, {Module: "A"}}, impl.ErrBad},
		{"an import with a word for a name", good, []impl.Interface{{Module: "LEN"}}, impl.ErrBad},
		{"an import that exports a word", good, []impl.Interface{face(impl.Item{Kind: impl.ItProc, Name: "IF"})}, impl.ErrBad},
		{"21 imports", good, make([]impl.Interface, 21), impl.ErrBad},
		{"as many imports as a list has", good, make([]impl.Interface, impl.MaxList), impl.ErrBad},
		{"more imports than a list has", good, make([]impl.Interface, impl.MaxList+1), impl.ErrLong},
		{"more imports than a list has, and no tree", impl.Node{}, make([]impl.Interface, impl.MaxList+1), impl.ErrLong},
	} {
		if o, code, place := impl.Compile(c.tree, c.imports); code != c.code || place != 0 || !noObject(o) {
			t.Errorf("Compile, %s: code %d at %d, want %d; %v", c.name, code, place, c.code, o)
		}
	}
}

// modulesWith makes a module of so many of something.
func modulesWith(many int, ahead, each, behind string) string {
	var b strings.Builder
	b.WriteString("MODULE M; " + ahead)
	for at := range many {
		b.WriteString(strings.ReplaceAll(each, "#", strconv.Itoa(at)))
	}
	return b.String() + behind + " END M."
}

// balanced is an expression of so many names with a sign between each two.
func balanced(sign, name string, many int) impl.Node {
	if many == 1 {
		return nameNode(name)
	}
	return binaryNode(sign, balanced(sign, name, many/2), balanced(sign, name, many-many/2))
}

// longModule has a procedure of so many instructions, of which there are 1997 at least.
func longModule(many int) impl.Node {
	statements := []impl.Node{writeNode(balanced("&", "x", 333))}
	for range many - 1997 {
		statements = append(statements, node(impl.NdReturn))
	}
	proc := namedNode(impl.NdProc, 0, "P", namedNode(impl.NdParam, 1, "x", typeNode(impl.TyBool)), node(impl.NdResult), blockNode(statements...))
	return namedNode(impl.NdModule, 0, "M", proc, blockNode())
}

// deepModule needs so many values on the stack, 39 at least.
func deepModule(t *testing.T, values int) impl.Node {
	t.Helper()
	ones := func() []impl.Node {
		var list []impl.Node
		for range 19 {
			list = append(list, intNode(1))
		}
		return list
	}
	last := intNode(1)
	for range values - 39 {
		last = binaryNode("+", intNode(1), last)
	}
	tree := treeOf(t, "MODULE M; PROCEDURE F("+params(20)+": INTEGER): INTEGER; BEGIN RETURN 1 END F; END M.")
	inner := namedNode(impl.NdCall, 0, "F", append(ones(), last)...)
	tree.Kids[1].Kids = []impl.Node{writeNode(namedNode(impl.NdCall, 0, "F", append(ones(), inner)...))}
	return tree
}

// manyImports has the modules of so many interfaces, and imports them.
func manyImports(t *testing.T, many int) (impl.Node, []impl.Interface) {
	t.Helper()
	var imports []impl.Interface
	text := "MODULE M; IMPORT A0"
	for at := range many {
		name := "A" + strconv.Itoa(at)
		imports = append(imports, impl.Interface{Module: name, Items: manyItems(at)})
		if at > 0 {
			text += ", " + name
		}
	}
	return treeOf(t, text+"; END M."), imports
}

// exportingTree exports so many constants and procedures; a source that says so may be longer than one may be.
func exportingTree(consts, procs int) impl.Node {
	tree := namedNode(impl.NdModule, 0, "M")
	for at := range consts {
		tree.Kids = append(tree.Kids, namedNode(impl.NdConst, 1, "c"+strconv.Itoa(at), intNode(at)))
	}
	for at := range procs {
		tree.Kids = append(tree.Kids, namedNode(impl.NdProc, 1, "p"+strconv.Itoa(at), numberNode(impl.NdResult, 0), blockNode()))
	}
	tree.Kids = append(tree.Kids, blockNode())
	return tree
}

// How many things a module exports is no part of whether its object is right, but its print tells them all.
func TestPrintsOfManyExports(t *testing.T) {
	prints := map[int]int{}
	for _, many := range []int{59, 60, 61, 62, 100, 255} {
		tree := exportingTree(many, 0)
		o, code, place := impl.Compile(tree, nil)
		if code != impl.OK || place != 0 || len(o.Procs) != 1 || len(o.Globals) != 0 || len(o.Needs) != 0 {
			t.Errorf("Compile, %d exports: code %d at %d, %v", many, code, place, o)
		}
		if _, code := impl.InterfaceOf(tree, nil); code != impl.OK && many <= 60 || code != impl.ErrMany && many > 60 {
			t.Errorf("InterfaceOf, %d exports: code %d", many, code)
		}
		prints[o.Print]++
		tree.Kids[many-1].Kids[0].N++
		again, _, _ := impl.Compile(tree, nil)
		prints[again.Print]++
	}
	if len(prints) != 12 {
		t.Error("so many prints:", len(prints))
	}
	if o, _, _ := impl.Compile(exportingTree(61, 0), nil); o.Print != 2886050703 {
		t.Error("the print of 61 exports:", o.Print)
	}
}

func TestBoundsOfCompiledModules(t *testing.T) {
	variables := func(many int) impl.Node {
		return treeOf(t, modulesWith(many, "VAR ", "v#: CHAR; ", ""))
	}
	procedures := func(many int) impl.Node {
		return treeOf(t, modulesWith(many, "", "PROCEDURE p#(); END p#; ", ""))
	}
	cells := func(rest int) impl.Node {
		tail := "END P;"
		if rest > 0 {
			tail = "w: ARRAY " + strconv.Itoa(rest) + " OF CHAR; " + tail
		}
		return treeOf(t, modulesWith(19, "PROCEDURE P(a: CHAR); VAR ", "v#: ARRAY 100 OF CHAR; ", tail))
	}
	for _, c := range []struct {
		name string
		tree impl.Node
		code int
	}{
		{"100 variables", variables(100), impl.OK},
		{"101 variables", variables(101), impl.ErrSize},
		{"59 procedures and a body", procedures(59), impl.OK},
		{"60 procedures and a body", procedures(60), impl.ErrSize},
		{"1999 cells", cells(98), impl.OK},
		{"2000 cells", cells(99), impl.OK},
		{"2001 cells", cells(100), impl.ErrSize},
		{"1997 instructions", longModule(1997), impl.OK},
		{"2000 instructions", longModule(2000), impl.OK},
		{"2001 instructions", longModule(2001), impl.ErrSize},
		{"39 values", deepModule(t, 39), impl.OK},
		{"59 values", deepModule(t, 59), impl.OK},
		{"60 values", deepModule(t, 60), impl.OK},
		{"61 values", deepModule(t, 61), impl.ErrSize},
		{"62 values", deepModule(t, 62), impl.ErrSize},
		{"60 exports", exportingTree(60, 0), impl.OK},
		{"61 exports", exportingTree(61, 0), impl.OK},
		{"62 exports", exportingTree(62, 0), impl.OK},
		{"200 exports", exportingTree(200, 0), impl.OK},
		{"255 exports", exportingTree(255, 0), impl.OK},
		{"256 exports", exportingTree(256, 0), impl.OK},
		{"as many exports as a tree holds", exportingTree(349, 0), impl.OK},
		{"300 exports and as many procedures as an object has", exportingTree(241, 59), impl.OK},
		{"61 exports and more procedures than an object has", exportingTree(61, 60), impl.ErrSize},
	} {
		o, code, place := impl.Compile(c.tree, nil)
		if code != c.code || place != 0 || (code != impl.OK) != noObject(o) {
			t.Errorf("Compile, %s: code %d at %d, want %d", c.name, code, place, c.code)
		}
		wantCompiled(t, c.tree, nil)
	}
	if got := len(codeByRules(longModule(2000), nil).Procs[0].List); got != 2000 {
		t.Error("a long module has so many instructions:", got)
	}
	if got := codeByRules(cells(99), nil).Procs[0].Cells; got != 2000 {
		t.Error("a wide procedure has so many cells:", got)
	}
}

// What there is of a module, but for the imports that it does not name, stands in its object, in its order.
func TestImportsOfCompiledModules(t *testing.T) {
	tree, imports := manyImports(t, 20)
	if code := wantCompiled(t, tree, imports); code != impl.OK {
		t.Error("20 imports: code", code)
	}
	o, _, _ := impl.Compile(tree, imports)
	for at, need := range o.Needs {
		if need.Module != "A"+strconv.Itoa(at) || need.Print != printByRule(imports[at]) {
			t.Error("another Need than is due:", at, need)
		}
	}
	slices.Reverse(imports)
	if turned, code, _ := impl.Compile(tree, imports); code != impl.OK || len(o.Needs) != 20 || !sameObject(turned, o) {
		t.Error("the order of the interfaces tells:", code, turned.Needs)
	}
	tree, imports = manyImports(t, 21)
	if o, code, place := impl.Compile(tree, imports); code != impl.ErrBad || place != 0 || !noObject(o) {
		t.Errorf("21 imports: code %d at %d", code, place)
	}
	if o, code, _ := impl.Compile(treeOf(t, "MODULE M; END M."), someImports()); code != impl.OK || len(o.Needs) != 0 {
		t.Error("imports that are not named:", code, o.Needs)
	}
	x := impl.Interface{Module: "A", Items: []impl.Item{{Kind: impl.ItConst, Type: impl.TyInt, Value: 1, Name: "k"}}}
	first, _, _ := impl.Compile(treeOf(t, "MODULE M; IMPORT A; END M."), []impl.Interface{x})
	x.Items[0].Value = 2
	second, _, _ := impl.Compile(treeOf(t, "MODULE M; IMPORT A; END M."), []impl.Interface{x})
	if first.Needs[0].Print == second.Needs[0].Print || first.Print != second.Print {
		t.Error("prints of another interface:", first, second)
	}
}

// fatModule has bytes of that size: calls of an import's procedures with twenty arguments, then such as fill it up.
func fatModule(t *testing.T, size int) (impl.Node, []impl.Interface) {
	t.Helper()
	long := strings.Repeat("L", 40)
	x := impl.Interface{Module: long, Items: []impl.Item{{Kind: impl.ItVar, Type: impl.TyInt, Name: strings.Repeat("v", 40)}, {Kind: impl.ItProc, Name: strings.Repeat("f", 40), Params: make([]impl.Param, 20)}}}
	for at := range x.Items[1].Params {
		x.Items[1].Params[at].Type = impl.TyInt
	}
	for length := range 40 {
		x.Items = append(x.Items, impl.Item{Kind: impl.ItProc, Name: strings.Repeat("g", length+1)})
	}
	tree := namedNode(impl.NdModule, 0, "M", namedNode(impl.NdImport, 0, long), blockNode())
	body := &tree.Kids[1]
	for rest := size - len(writtenObject(codeByRules(tree, []impl.Interface{x}))); rest > 0; rest = size - len(writtenObject(codeByRules(tree, []impl.Interface{x}))) {
		n := ofNode(impl.NdCall, long, strings.Repeat("f", 40))
		switch {
		case rest > 2300:
			for range 20 {
				n.Kids = append(n.Kids, ofNode(impl.NdName, long, strings.Repeat("v", 40)))
			}
		case rest > 184: // a call has 52 bytes and those of the name
			n.Name = "g"
		case rest > 92:
			n.Name = strings.Repeat("g", min(40, rest-105))
		default:
			n.Name = strings.Repeat("g", rest-52)
		}
		body.Kids = append(body.Kids, n)
	}
	return tree, []impl.Interface{x}
}

// Promise 5: what is compiled is read back, where its bytes are within MaxText.
func TestCompiledModulesOfManyBytes(t *testing.T) {
	for _, c := range []struct{ size, code int }{{65535, impl.OK}, {65536, impl.OK}, {65537, impl.ErrSize}, {67000, impl.ErrSize}} {
		tree, imports := fatModule(t, c.size)
		if code := wantCompiled(t, tree, imports); code != impl.OK {
			t.Errorf("%v: Compile: code %d", c, code)
		}
		o, _, _ := impl.Compile(tree, imports)
		b, code := impl.ObjectBytes(o)
		if code != c.code || code == impl.OK && len(b) != c.size {
			t.Errorf("%v: code %d, %d bytes", c, code, len(b))
		}
	}
}

// hidden gives names of the module's to what a procedure gives.
func hidden(source *rand.Rand, tree impl.Node) impl.Node {
	tree = copyTree(tree)
	var names []string
	for _, kid := range tree.Kids {
		if kid.Name != "" {
			names = append(names, kid.Name)
		}
	}
	for at := range tree.Kids {
		proc := &tree.Kids[at]
		if proc.Kind != impl.NdProc {
			continue
		}
		for _, kid := range proc.Kids {
			if kid.Name == "" || source.Intn(2) > 0 {
				continue
			}
			name := names[source.Intn(len(names))]
			eachNode(proc, func(n *impl.Node) {
				if n.Name == kid.Name && n.Of == "" {
					n.Name = name
				}
			})
		}
	}
	return tree
}

// Promise 5: what is compiled verifies, and is read back; with a fault it has Check's code and place.
func TestModulesCompiledByTheRules(t *testing.T) {
	source := rand.New(rand.NewSource(17))
	codes := map[int]int{}
	kinds := map[int]int{}
	ops := map[int]int{}
	for range 2500 {
		tree := checkedModule(source)
		for _, tree := range []impl.Node{tree, hidden(source, tree), wronged(source, tree), wronged(source, wronged(source, tree))} {
			if !impl.TreeOK(tree) {
				continue
			}
			code := wantCompiled(t, tree, someImports())
			codes[code]++
			if t.Failed() {
				return
			}
			if code != impl.OK {
				continue
			}
			eachNode(&tree, func(n *impl.Node) { kinds[n.Kind]++ })
			o, _, _ := impl.Compile(tree, someImports())
			for _, proc := range o.Procs {
				for _, i := range proc.List {
					ops[i.Op]++
				}
			}
		}
	}
	for kind := impl.NdModule; kind <= impl.NdLen; kind++ {
		if kinds[kind] < 100 {
			t.Error("so many of each Kind are compiled:", kinds)
			break
		}
	}
	for op := impl.OpPush; op <= impl.OpTrap; op++ {
		if ops[op] < 100 {
			t.Error("there are so many of each Op:", ops)
			break
		}
	}
	if codes[impl.OK] < 2000 || codes[impl.ErrType] < 100 || codes[impl.ErrName] < 100 {
		t.Error("so many have each code:", codes)
	}
}

// Promise 5: a code that was compiled, with something in it changed, is held against the chapter's rules.
func TestChangedCompiledCodes(t *testing.T) {
	source := rand.New(rand.NewSource(18))
	codes := map[int]int{}
	for range 1500 {
		o, code, _ := impl.Compile(checkedModule(source), someImports())
		if code != impl.OK {
			continue
		}
		for _, proc := range o.Procs {
			for range 6 {
				c := copyCode(proc)
				at := source.Intn(len(c.List))
				other := c.List[source.Intn(len(c.List))]
				switch source.Intn(6) {
				case 0:
					c.List[at] = other
				case 1:
					c.List = slices.Delete(c.List, at, at+1)
				case 2:
					c.List = slices.Insert(c.List, at, other)
				case 3:
					c.List[at].A += source.Intn(3) - 1
				case 4:
					c.List[at] = ins(impl.OpJumpFalse, source.Intn(len(c.List)))
				case 5:
					c.List[at].Op = 1 + source.Intn(17)
				}
				codes[wantVerified(t, c)]++
			}
		}
		if t.Failed() {
			return
		}
	}
	for _, code := range []int{impl.OK, impl.ErrForm, impl.ErrRange, impl.ErrCount, impl.ErrPlace} {
		if codes[code] < 20 {
			t.Error("so many have each code:", codes)
			break
		}
	}
}

// What a module is, its text is: its object is the same behind Print and Parse.
func TestPrintedModulesCompileAlike(t *testing.T) {
	source := rand.New(rand.NewSource(19))
	sources := 0
	for range 600 {
		tree := checkedModule(source)
		text, _ := impl.Print(tree)
		again, code, _ := impl.Parse(text)
		if code != impl.OK {
			continue
		}
		sources++
		first, code, _ := impl.Compile(tree, someImports())
		second, codeAgain, _ := impl.Compile(again, someImports())
		if code != codeAgain || !sameObject(first, second) {
			t.Errorf("codes %d and %d:\n%s", code, codeAgain, text)
		}
	}
	if sources < 300 {
		t.Error("too few of them are sources:", sources)
	}
}
