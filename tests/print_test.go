package tests

import (
	"math/rand"
	"reflect"
	"strings"
	"testing"

	"loop.example/g00168/impl"
)

func wantPrinted(t *testing.T, n impl.Node, want string) {
	t.Helper()
	got, code := impl.Print(n)
	if code != impl.OK || got != want {
		t.Errorf("Print: code %d, text\n%s\nwant\n%s", code, got, want)
	}
}

// wantAgain prints the tree, and asks that its text has it as tree again.
func wantAgain(t *testing.T, n impl.Node) string {
	t.Helper()
	text, code := impl.Print(n)
	if code != impl.OK {
		t.Errorf("Print(%.300v): code %d", n, code)
		return ""
	}
	wantParsed(t, text, n)
	return text
}

const fullText = `MODULE M;
IMPORT A, B;
CONST
  a* = 999999999999999999 + -0;
  b = "` + "\U0010FFFF" + `";
VAR
  x: INTEGER;
  v*: ARRAY 1 OF CHAR;
PROCEDURE P*(VAR p: INTEGER; q: CHAR): BOOLEAN;
  VAR
    z: BOOLEAN;
    w*: ARRAY 100 OF INTEGER;
BEGIN
  RETURN TRUE
END P;
PROCEDURE Q();
END Q;
BEGIN
  x := LEN(v);
  v[0] := CHR(ORD(0AX));
  A.f(x, A.y);
  IF ~FALSE THEN
    RETURN
  ELSE
  END;
  IF 1 = g() THEN
  END;
  WHILE t DO
    Q()
  END;
  WRITE(A.u[2]);
  READ(x)
END M.
`

func TestPrintedModules(t *testing.T) {
	wantPrinted(t, fullTree(), fullText)
	wantAgain(t, fullTree())
	wantPrinted(t, moduleNode(), "MODULE M;\nEND M.\n")
	wantPrinted(t, moduleNode(node(impl.NdReturn)), "MODULE M;\nBEGIN\n  RETURN\nEND M.\n")
	wantPrinted(t, namedNode(impl.NdModule, 0, "M", namedNode(impl.NdImport, 0, "A"), blockNode()), "MODULE M;\nIMPORT A;\nEND M.\n")
	wantPrinted(t, namedNode(impl.NdModule, 0, "M", namedNode(impl.NdConst, 0, "c", intNode(1)), namedNode(impl.NdConst, 1, "d", nameNode("c")), blockNode()),
		"MODULE M;\nCONST\n  c = 1;\n  d* = c;\nEND M.\n")
	wantPrinted(t, namedNode(impl.NdModule, 0, "M", namedNode(impl.NdVar, 1, "c", typeNode(impl.TyBool)), blockNode(node(impl.NdReturn))),
		"MODULE M;\nVAR\n  c*: BOOLEAN;\nBEGIN\n  RETURN\nEND M.\n")
}

func TestPrintedProcedures(t *testing.T) {
	of := func(procs ...impl.Node) impl.Node {
		return namedNode(impl.NdModule, 0, "M", append(procs, blockNode())...)
	}
	wantPrinted(t, of(namedNode(impl.NdProc, 0, "P", node(impl.NdResult), blockNode())), "MODULE M;\nPROCEDURE P();\nEND P;\nEND M.\n")
	wantPrinted(t, of(namedNode(impl.NdProc, 0, "P", numberNode(impl.NdResult, impl.TyInt), blockNode(node(impl.NdReturn, intNode(1))))),
		"MODULE M;\nPROCEDURE P(): INTEGER;\nBEGIN\n  RETURN 1\nEND P;\nEND M.\n")
	a := namedNode(impl.NdParam, 0, "a", typeNode(impl.TyInt))
	b := namedNode(impl.NdParam, 1, "b", typeNode(impl.TyBool))
	wantPrinted(t, of(namedNode(impl.NdProc, 1, "P", a, b, b, a, numberNode(impl.NdResult, impl.TyChar), namedNode(impl.NdVar, 0, "v", typeNode(impl.TyChar)), blockNode())),
		"MODULE M;\nPROCEDURE P*(a: INTEGER; VAR b: BOOLEAN; VAR b: BOOLEAN; a: INTEGER): CHAR;\n  VAR\n    v: CHAR;\nEND P;\nEND M.\n")
	wantPrinted(t, of(namedNode(impl.NdProc, 1, "P", node(impl.NdResult), blockNode()), namedNode(impl.NdProc, 0, "Q", a, node(impl.NdResult), blockNode(node(impl.NdReturn), node(impl.NdReturn)))),
		"MODULE M;\nPROCEDURE P*();\nEND P;\nPROCEDURE Q(a: INTEGER);\nBEGIN\n  RETURN;\n  RETURN\nEND Q;\nEND M.\n")
}

func TestPrintedStatements(t *testing.T) {
	x, stop := nameNode("x"), node(impl.NdReturn)
	loop := node(impl.NdWhile, x, blockNode(node(impl.NdIf, x, blockNode(stop, stop), blockNode(node(impl.NdIf, x, blockNode(), blockNode(stop)), stop))))
	wantPrinted(t, moduleNode(loop, loop.Kids[1].Kids[0], node(impl.NdWhile, x, blockNode()), stop), `MODULE M;
BEGIN
  WHILE x DO
    IF x THEN
      RETURN;
      RETURN
    ELSE
      IF x THEN
      ELSE
        RETURN
      END;
      RETURN
    END
  END;
  IF x THEN
    RETURN;
    RETURN
  ELSE
    IF x THEN
    ELSE
      RETURN
    END;
    RETURN
  END;
  WHILE x DO
  END;
  RETURN
END M.
`)
	item := node(impl.NdIndex, ofNode(impl.NdName, "A", "v"), x)
	wantPrinted(t, moduleNode(node(impl.NdAssign, item, item), node(impl.NdRead, item), writeNode(item), node(impl.NdReturn, item), namedNode(impl.NdCall, 0, "P"), ofNode(impl.NdCall, "A", "P", item), stop, stop), `MODULE M;
BEGIN
  A.v[x] := A.v[x];
  READ(A.v[x]);
  WRITE(A.v[x]);
  RETURN A.v[x];
  P();
  A.P(A.v[x]);
  RETURN;
  RETURN
END M.
`)
}

func valueText(t *testing.T, value impl.Node) string {
	t.Helper()
	text := wantAgain(t, constNode(value))
	text, _ = strings.CutPrefix(text, "MODULE M;\nCONST\n  c = ")
	text, ok := strings.CutSuffix(text, ";\nEND M.\n")
	if !ok {
		t.Error("no module of a constant:", text)
	}
	return text
}

func TestPrintedExpressions(t *testing.T) {
	a, b := nameNode("a"), nameNode("b")
	for _, c := range []struct {
		value impl.Node
		want  string
	}{
		{intNode(0), "0"}, {intNode(10), "10"}, {intNode(999999999999999999), "999999999999999999"},
		{numberNode(impl.NdChar, 'a'), "\"a\""}, {numberNode(impl.NdChar, 0), "00X"}, {numberNode(impl.NdChar, 34), "022X"}, {numberNode(impl.NdChar, 127), "07FX"}, {numberNode(impl.NdChar, 0x20AC), "\"€\""},
		{numberNode(impl.NdBool, 0), "FALSE"}, {numberNode(impl.NdBool, 1), "TRUE"},
		{a, "a"}, {ofNode(impl.NdName, "A", "b"), "A.b"}, {node(impl.NdIndex, a, binaryNode("<", a, b)), "a[a < b]"}, {node(impl.NdIndex, ofNode(impl.NdName, "A", "b"), a), "A.b[a]"},
		{namedNode(impl.NdCall, 0, "f"), "f()"}, {ofNode(impl.NdCall, "A", "f", a), "A.f(a)"}, {namedNode(impl.NdCall, 0, "f", binaryNode("=", a, b), a, unaryNode("-", a)), "f(a = b, a, -a)"},
		{node(impl.NdOrd, binaryNode("+", a, b)), "ORD(a + b)"}, {node(impl.NdChr, a), "CHR(a)"}, {node(impl.NdLen, a), "LEN(a)"}, {node(impl.NdLen, ofNode(impl.NdName, "A", "b")), "LEN(A.b)"},
		{unaryNode("-", a), "-a"}, {unaryNode("~", unaryNode("-", unaryNode("-", intNode(1)))), "~--1"}, {unaryNode("-", node(impl.NdOrd, a)), "-ORD(a)"}, {unaryNode("-", node(impl.NdIndex, a, b)), "-a[b]"},
	} {
		if got := valueText(t, c.value); got != c.want {
			t.Errorf("printed %q, want %q", got, c.want)
		}
	}
}

func TestPrintedParentheses(t *testing.T) {
	a, b, c := nameNode("a"), nameNode("b"), nameNode("c")
	bindings := [][]string{{"=", "#", "<", "<=", ">", ">="}, {"+", "-", "OR"}, {"*", "DIV", "MOD", "&"}}
	for outerBinds, outers := range bindings {
		for innerBinds, inners := range bindings {
			for _, outer := range outers {
				for _, inner := range inners {
					left := "a " + inner + " b"
					if innerBinds < outerBinds || innerBinds == 0 && outerBinds == 0 {
						left = "(" + left + ")"
					}
					if got, want := valueText(t, binaryNode(outer, binaryNode(inner, a, b), c)), left+" "+outer+" c"; got != want {
						t.Errorf("printed %q, want %q", got, want)
					}
					right := "b " + inner + " c"
					if innerBinds <= outerBinds {
						right = "(" + right + ")"
					}
					if got, want := valueText(t, binaryNode(outer, a, binaryNode(inner, b, c))), "a "+outer+" "+right; got != want {
						t.Errorf("printed %q, want %q", got, want)
					}
				}
			}
		}
	}
	for _, signs := range bindings {
		for _, sign := range signs {
			for _, one := range []string{"-", "~"} {
				if got, want := valueText(t, unaryNode(one, binaryNode(sign, a, b))), one+"(a "+sign+" b)"; got != want {
					t.Errorf("printed %q, want %q", got, want)
				}
				if got, want := valueText(t, binaryNode(sign, unaryNode(one, a), unaryNode(one, unaryNode(one, b)))), one+"a "+sign+" "+one+one+"b"; got != want {
					t.Errorf("printed %q, want %q", got, want)
				}
				if got, want := valueText(t, unaryNode(one, unaryNode("-", binaryNode(sign, a, b)))), one+"-(a "+sign+" b)"; got != want {
					t.Errorf("printed %q, want %q", got, want)
				}
			}
		}
	}
}

// maker makes right trees up at random, of no more nodes than room has.
type maker struct {
	source *rand.Rand
	room   int
}

func (m *maker) some(most int) int {
	return m.source.Intn(most + 1)
}

func (m *maker) name() string {
	names := []string{"a", "b", "x1", "_", "Zz_9", "end", "M", strings.Repeat("n", 40)}
	return names[m.source.Intn(len(names))]
}

func (m *maker) of(kind int, kids ...impl.Node) impl.Node {
	of := ""
	if m.some(2) == 0 {
		of = m.name()
	}
	return ofNode(kind, of, m.name(), kids...)
}

func (m *maker) designator(levels int) impl.Node {
	m.room -= 2
	if levels < 2 || m.some(2) > 0 {
		return m.of(impl.NdName)
	}
	return node(impl.NdIndex, m.of(impl.NdName), m.value(levels-1))
}

func (m *maker) value(levels int) impl.Node {
	m.room--
	if levels < 3 || m.room < 50 || m.some(9) == 0 {
		return []impl.Node{intNode(m.some(999999999999999998)), numberNode(impl.NdChar, m.some(0xD7FF)), numberNode(impl.NdChar, m.some(200)), numberNode(impl.NdBool, m.some(1)), m.of(impl.NdName)}[m.some(4)]
	}
	switch m.some(8) {
	case 0:
		return unaryNode([]string{"-", "~"}[m.some(1)], m.value(levels-1))
	case 1:
		return node([]int{impl.NdOrd, impl.NdChr}[m.some(1)], m.value(levels-1))
	case 2:
		return node(impl.NdLen, m.of(impl.NdName))
	case 3:
		return m.call(levels)
	case 4:
		return m.designator(levels)
	}
	signs := strings.Fields("= # < <= > >= + - OR * DIV MOD &")
	return binaryNode(signs[m.some(len(signs)-1)], m.value(levels-1), m.value(levels-1))
}

func (m *maker) call(levels int) impl.Node {
	var kids []impl.Node
	for range m.some(3) {
		kids = append(kids, m.value(levels-1))
	}
	return m.of(impl.NdCall, kids...)
}

func (m *maker) statement(levels int) impl.Node {
	m.room--
	if levels < 3 || m.room < 80 {
		return node(impl.NdReturn)
	}
	switch m.some(8) {
	case 0:
		return node(impl.NdRead, m.designator(levels-1))
	case 1:
		return node(impl.NdReturn, m.value(levels-1))
	case 2:
		return writeNode(m.value(levels - 1))
	case 3:
		return m.call(levels)
	case 4:
		return node(impl.NdWhile, m.value(levels-1), m.block(levels-1))
	case 5:
		return node(impl.NdIf, m.value(levels-1), m.block(levels-1))
	case 6:
		return node(impl.NdIf, m.value(levels-1), m.block(levels-1), m.block(levels-1))
	}
	return node(impl.NdAssign, m.designator(levels-1), m.value(levels-1))
}

func (m *maker) block(levels int) impl.Node {
	m.room--
	var kids []impl.Node
	for range m.some(3) {
		kids = append(kids, m.statement(levels-1))
	}
	return blockNode(kids...)
}

func (m *maker) plainType() impl.Node {
	m.room -= 2
	return typeNode(1 + m.some(2))
}

func (m *maker) vars() []impl.Node {
	var list []impl.Node
	for range m.some(3) {
		ty := m.plainType()
		if m.some(1) == 0 {
			ty = numberNode(impl.NdArray, 1+m.some(99), ty)
		}
		list = append(list, namedNode(impl.NdVar, m.some(1), m.name(), ty))
	}
	return list
}

func (m *maker) procedure(levels int) impl.Node {
	m.room -= 2
	var kids []impl.Node
	for range m.some(4) {
		kids = append(kids, namedNode(impl.NdParam, m.some(1), m.name(), m.plainType()))
	}
	kids = append(kids, numberNode(impl.NdResult, m.some(3)))
	kids = append(kids, m.vars()...)
	return namedNode(impl.NdProc, m.some(1), m.name(), append(kids, m.block(levels-1))...)
}

func (m *maker) module(levels int) impl.Node {
	var kids []impl.Node
	for range m.some(2) {
		kids = append(kids, namedNode(impl.NdImport, 0, m.name()))
	}
	for range m.some(2) {
		kids = append(kids, namedNode(impl.NdConst, m.some(1), m.name(), m.value(levels-2)))
	}
	kids = append(kids, m.vars()...)
	for range m.some(2) {
		kids = append(kids, m.procedure(levels-1))
	}
	return namedNode(impl.NdModule, 0, m.name(), append(kids, m.block(levels-1))...)
}

// randomTree is a right tree; of most of them the text is a source.
func randomTree(source *rand.Rand) impl.Node {
	m := &maker{source: source, room: 100 + source.Intn(300)}
	return m.module(6 + source.Intn(12))
}

// Promise 3: a module's text is parsed as it.
func TestPrintedTreesAreParsedAgain(t *testing.T) {
	source := rand.New(rand.NewSource(6))
	kinds := map[int]int{}
	sources := 0
	for range 4000 {
		n := randomTree(source)
		text, code := impl.Print(n)
		if code != impl.OK {
			t.Fatalf("Print(%v): code %d", n, code)
		}
		if _, code, _ := impl.Tokens(text); code != impl.OK {
			continue
		}
		sources++
		wantParsed(t, text, n)
		eachNode(&n, func(n *impl.Node) { kinds[n.Kind]++ })
		checkLines(t, text)
	}
	if sources < 3000 || len(kinds) != 27 {
		t.Error("so many sources, and Kinds:", sources, kinds)
	}
}

// checkLines asks for what is so of all printed texts.
func checkLines(t *testing.T, text string) {
	t.Helper()
	lines := strings.Split(text, "\n")
	if lines[len(lines)-1] != "" {
		t.Errorf("the last line does not end: %q", text)
	}
	ahead := 0
	for _, line := range lines[:len(lines)-1] {
		blanks := len(line) - len(strings.TrimLeft(line, " "))
		if blanks%2 != 0 || blanks > ahead+2 || line == "" || strings.HasSuffix(line, " ") {
			t.Errorf("a line of other blanks: %q", line)
		}
		ahead = blanks
	}
}

// No parentheses are there but those that are needed: without a pair, the text has another tree or none.
func TestNoNeedlessParentheses(t *testing.T) {
	source := rand.New(rand.NewSource(7))
	pairs := 0
	for range 1500 {
		m := &maker{source: source, room: 120}
		n := constNode(m.value(8))
		text, _ := impl.Print(n)
		want, code, _ := impl.Parse(text)
		if code != impl.OK {
			continue
		}
		for _, pair := range parenthesesOf(text) {
			pairs++
			less := text[:pair[0]] + " " + text[pair[0]+1:pair[1]] + " " + text[pair[1]+1:]
			if got, code, _ := impl.Parse(less); code == impl.OK && reflect.DeepEqual(got, want) {
				t.Errorf("needless parentheses at %d: %q", pair[0], text)
			}
		}
	}
	if pairs < 1000 {
		t.Error("too few parentheses:", pairs)
	}
}

// parenthesesOf is where those begin and end that stand ahead of no arguments.
func parenthesesOf(text string) [][2]int {
	list, _, _ := impl.Tokens(text)
	var pairs [][2]int
	var open []int
	for i, token := range list {
		switch token.Text {
		case "(":
			open = append(open, i)
		case ")":
			from := open[len(open)-1]
			open = open[:len(open)-1]
			before := list[from-1]
			if before.Kind == impl.TkSign || before.Text == "OR" || before.Text == "DIV" || before.Text == "MOD" {
				pairs = append(pairs, [2]int{list[from].At, token.At})
			}
		}
	}
	return pairs
}

// What a module's text is parsed as is printed as the same text.
func TestParsedTextsArePrinted(t *testing.T) {
	n, code, _ := impl.Parse(grammarText)
	if code != impl.OK {
		t.Fatal("code", code)
	}
	text := wantAgain(t, n)
	for range 2 {
		n, _, _ = impl.Parse(text)
		if again, _ := impl.Print(n); again != text {
			t.Error("printed again:\n", again)
		}
	}
}

// The largest trees, whose texts are longer than a source.
func TestPrintedTreesThatAreNoSources(t *testing.T) {
	long := strings.Repeat("n", 40)
	var list []impl.Node
	for range 690 {
		list = append(list, ofNode(impl.NdCall, long, long))
	}
	text, code := impl.Print(moduleNode(list...))
	if want := "MODULE M;\nBEGIN\n" + strings.Repeat("  "+long+"."+long+"();\n", 689) + "  " + long + "." + long + "()\nEND M.\n"; code != impl.OK || text != want {
		t.Errorf("Print: code %d, %d bytes, want %d", code, len(text), len(want))
	}
	wantParseFault(t, text, impl.ErrSize, 0)
	inner := blockNode()
	for range 19 {
		inner = blockNode(node(impl.NdWhile, intNode(1), inner))
	}
	n := namedNode(impl.NdModule, 0, "M", inner)
	if depth(n) != 40 {
		t.Fatal("depth", depth(n))
	}
	if text := wantAgain(t, n); !strings.Contains(text, "\n"+strings.Repeat("  ", 19)+"WHILE 1 DO\n"+strings.Repeat("  ", 19)+"END\n"+strings.Repeat("  ", 18)+"END\n") {
		t.Error("the deepest loop is not there:", text)
	}
}

// Right trees whose texts are short enough, but have more tokens than a source may, or more that are open: Parse says so.
func TestPrintedTreesBeyondOtherBounds(t *testing.T) {
	signs := func(many int) impl.Node {
		value := nameNode("a")
		for range many {
			value = unaryNode("-", value)
		}
		return constNode(value)
	}
	var arguments []impl.Node
	for range 690 {
		arguments = append(arguments, intNode(1))
	}
	text, code := impl.Print(moduleNode(namedNode(impl.NdCall, 0, "P", arguments...)))
	if code != impl.OK || len(text) > impl.MaxSource {
		t.Fatal("a call of many arguments:", code, len(text))
	}
	_, want, place := impl.Tokens(text)
	wantParseFault(t, text, impl.ErrMany, place)
	if want != impl.ErrMany {
		t.Error("its tokens have the code", want)
	}
	wantAgain(t, signs(20))
	text, code = impl.Print(signs(21))
	if code != impl.OK {
		t.Fatal("21 signs:", code)
	}
	wantParseFault(t, text, impl.ErrDeep, strings.LastIndex(text, "-"))
}
