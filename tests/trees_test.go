package tests

import (
	"math"
	"reflect"
	"regexp"
	"strings"
	"testing"

	"loop.example/g00168/impl"
)

func node(kind int, kids ...impl.Node) impl.Node {
	return impl.Node{Kind: kind, Kids: kids}
}

func numberNode(kind, n int, kids ...impl.Node) impl.Node {
	return impl.Node{Kind: kind, N: n, Kids: kids}
}

func namedNode(kind, n int, name string, kids ...impl.Node) impl.Node {
	return impl.Node{Kind: kind, N: n, Name: name, Kids: kids}
}

func ofNode(kind int, of, name string, kids ...impl.Node) impl.Node {
	return impl.Node{Kind: kind, Name: name, Of: of, Kids: kids}
}

func intNode(n int) impl.Node { return numberNode(impl.NdInt, n) }

func nameNode(name string) impl.Node { return namedNode(impl.NdName, 0, name) }

func typeNode(ty int) impl.Node { return numberNode(impl.NdType, ty) }

func unaryNode(sign string, kid impl.Node) impl.Node { return namedNode(impl.NdUnary, 0, sign, kid) }

func binaryNode(sign string, left, right impl.Node) impl.Node {
	return namedNode(impl.NdBinary, 0, sign, left, right)
}

func blockNode(statements ...impl.Node) impl.Node { return node(impl.NdBlock, statements...) }

// moduleNode has the statements in its body.
func moduleNode(statements ...impl.Node) impl.Node {
	return namedNode(impl.NdModule, 0, "M", blockNode(statements...))
}

func writeNode(value impl.Node) impl.Node { return node(impl.NdWrite, value) }

// fullTree has each Kind, and of each number of kids that the table allows one at least.
func fullTree() impl.Node {
	procedure := namedNode(impl.NdProc, 1, "P",
		namedNode(impl.NdParam, 1, "p", typeNode(impl.TyInt)), namedNode(impl.NdParam, 0, "q", typeNode(impl.TyChar)),
		numberNode(impl.NdResult, impl.TyBool),
		namedNode(impl.NdVar, 0, "z", typeNode(impl.TyBool)), namedNode(impl.NdVar, 1, "w", numberNode(impl.NdArray, 100, typeNode(impl.TyInt))),
		blockNode(node(impl.NdReturn, numberNode(impl.NdBool, 1))))
	return namedNode(impl.NdModule, 0, "M",
		namedNode(impl.NdImport, 0, "A"), namedNode(impl.NdImport, 0, "B"),
		namedNode(impl.NdConst, 1, "a", binaryNode("+", intNode(999999999999999999), unaryNode("-", intNode(0)))),
		namedNode(impl.NdConst, 0, "b", numberNode(impl.NdChar, 0x10FFFF)),
		namedNode(impl.NdVar, 0, "x", typeNode(impl.TyInt)), namedNode(impl.NdVar, 1, "v", numberNode(impl.NdArray, 1, typeNode(impl.TyChar))),
		procedure,
		namedNode(impl.NdProc, 0, "Q", node(impl.NdResult), blockNode()),
		blockNode(
			node(impl.NdAssign, nameNode("x"), node(impl.NdLen, nameNode("v"))),
			node(impl.NdAssign, node(impl.NdIndex, nameNode("v"), intNode(0)), node(impl.NdChr, node(impl.NdOrd, numberNode(impl.NdChar, 10)))),
			ofNode(impl.NdCall, "A", "f", nameNode("x"), ofNode(impl.NdName, "A", "y")),
			node(impl.NdIf, unaryNode("~", numberNode(impl.NdBool, 0)), blockNode(node(impl.NdReturn)), blockNode()),
			node(impl.NdIf, binaryNode("=", intNode(1), namedNode(impl.NdCall, 0, "g")), blockNode()),
			node(impl.NdWhile, nameNode("t"), blockNode(namedNode(impl.NdCall, 0, "Q"))),
			writeNode(node(impl.NdIndex, ofNode(impl.NdName, "A", "u"), intNode(2))),
			node(impl.NdRead, nameNode("x"))))
}

func copyTree(n impl.Node) impl.Node {
	var kids []impl.Node
	for _, kid := range n.Kids {
		kids = append(kids, copyTree(kid))
	}
	n.Kids = kids
	return n
}

func eachNode(n *impl.Node, see func(*impl.Node)) {
	see(n)
	for i := range n.Kids {
		eachNode(&n.Kids[i], see)
	}
}

func count(n impl.Node) int {
	all := 0
	eachNode(&n, func(*impl.Node) { all++ })
	return all
}

func depth(n impl.Node) int {
	most := 0
	for _, kid := range n.Kids {
		most = max(most, depth(kid))
	}
	return most + 1
}

// tableRow is a row of the table of chapter 3: the bounds of N, what Name and Of are, and the kids, a letter each, as a pattern.
type tableRow struct {
	least, most int
	name, of    string
	kids        string
}

const (
	statementKinds  = "[LMOPRSU]"
	expressionKinds = "[M0-9]"
	designatorKinds = "[34]"
)

// kindLetters has at the place of each Kind its letter in patterns.
const kindLetters = "?ABCDEFGHIJLMOPRSU0123456789"

func documentTable() map[int]tableRow {
	one := expressionKinds
	return map[int]tableRow{
		impl.NdModule: {0, 0, "own", "", "B*C*D*E*J"},
		impl.NdImport: {0, 0, "own", "", ""},
		impl.NdConst:  {0, 1, "own", "", one},
		impl.NdVar:    {0, 1, "own", "", "[HI]"},
		impl.NdProc:   {0, 1, "own", "", "F*GD*J"},
		impl.NdParam:  {0, 1, "own", "", "H"},
		impl.NdResult: {0, 3, "", "", ""},
		impl.NdType:   {1, 3, "", "", ""},
		impl.NdArray:  {1, 100, "", "", "H"},
		impl.NdBlock:  {0, 0, "", "", statementKinds + "*"},
		impl.NdAssign: {0, 0, "", "", designatorKinds + one},
		impl.NdCall:   {0, 0, "own", "module", one + "*"},
		impl.NdIf:     {0, 0, "", "", one + "JJ?"},
		impl.NdWhile:  {0, 0, "", "", one + "J"},
		impl.NdReturn: {0, 0, "", "", one + "?"},
		impl.NdWrite:  {0, 0, "", "", one},
		impl.NdRead:   {0, 0, "", "", designatorKinds},
		impl.NdInt:    {0, 999999999999999999, "", "", ""},
		impl.NdChar:   {0, 0x10FFFF, "", "", ""},
		impl.NdBool:   {0, 1, "", "", ""},
		impl.NdName:   {0, 0, "own", "module", ""},
		impl.NdIndex:  {0, 0, "", "", "3" + one},
		impl.NdUnary:  {0, 0, "- ~", "", one},
		impl.NdBinary: {0, 0, "= # < <= > >= + - OR * DIV MOD &", "", one + one},
		impl.NdOrd:    {0, 0, "", "", one},
		impl.NdChr:    {0, 0, "", "", one},
		impl.NdLen:    {0, 0, "", "", "3"},
	}
}

var nameShape = regexp.MustCompile(`^[A-Za-z_][A-Za-z0-9_]{0,39}$`)

func textFits(t, rule string) bool {
	isOwn := nameShape.MatchString(t) && !strings.Contains(" "+documentKeys+" ", " "+t+" ")
	switch rule {
	case "own":
		return isOwn
	case "module":
		return t == "" || isOwn
	case "":
		return t == ""
	}
	return t != "" && !strings.Contains(t, " ") && strings.Contains(" "+rule+" ", " "+t+" ")
}

// fitsTable tells by the table alone whether a tree is right, its first node apart.
func fitsTable(n impl.Node, table map[int]tableRow, shapes map[int]*regexp.Regexp) bool {
	row, ok := table[n.Kind]
	if !ok || n.N < row.least || n.N > row.most || !textFits(n.Name, row.name) || !textFits(n.Of, row.of) {
		return false
	}
	if n.Kind == impl.NdChar && 0xD800 <= n.N && n.N <= 0xDFFF {
		return false
	}
	var letters strings.Builder
	for _, kid := range n.Kids {
		letter := byte('?')
		if 0 < kid.Kind && kid.Kind < len(kindLetters) {
			letter = kindLetters[kid.Kind]
		}
		letters.WriteByte(letter)
	}
	if !shapes[n.Kind].MatchString(letters.String()) {
		return false
	}
	for _, kid := range n.Kids {
		if !fitsTable(kid, table, shapes) {
			return false
		}
	}
	return true
}

// tableOracle tells whether a tree is right, worked out apart from the program.
func tableOracle() func(impl.Node) bool {
	table := documentTable()
	shapes := map[int]*regexp.Regexp{}
	for kind, row := range table {
		shapes[kind] = regexp.MustCompile("^(" + row.kids + ")$")
	}
	return func(n impl.Node) bool {
		return n.Kind == impl.NdModule && count(n) <= 700 && depth(n) <= 40 && fitsTable(n, table, shapes)
	}
}

func wantTree(t *testing.T, n impl.Node, want bool) {
	t.Helper()
	before := copyTree(n)
	if got := impl.TreeOK(n); got != want {
		t.Errorf("TreeOK(%.300v) = %v", n, got)
	}
	if got, want := impl.Size(n), count(n); got != want {
		t.Errorf("Size(%.300v) = %d, want %d", n, got, want)
	}
	text, code := impl.Print(n)
	if want && (code != impl.OK || text == "") || !want && (code != impl.ErrBad || text != "") {
		t.Errorf("Print(%.300v) = %.60q, code %d", n, text, code)
	}
	if !reflect.DeepEqual(before, copyTree(n)) {
		t.Errorf("%.300v is changed", before)
	}
}

func TestConstantsOfTrees(t *testing.T) {
	if impl.MaxNodes != 700 || impl.MaxDepth != 40 {
		t.Error("bounds of chapter 3")
	}
	kinds := []int{impl.NdModule, impl.NdImport, impl.NdConst, impl.NdVar, impl.NdProc, impl.NdParam, impl.NdResult, impl.NdType, impl.NdArray, impl.NdBlock,
		impl.NdAssign, impl.NdCall, impl.NdIf, impl.NdWhile, impl.NdReturn, impl.NdWrite, impl.NdRead,
		impl.NdInt, impl.NdChar, impl.NdBool, impl.NdName, impl.NdIndex, impl.NdUnary, impl.NdBinary, impl.NdOrd, impl.NdChr, impl.NdLen}
	for i, kind := range kinds {
		if kind != i+1 {
			t.Errorf("Kind %d is %d", i+1, kind)
		}
	}
	for i, ty := range []int{impl.TyNone, impl.TyInt, impl.TyBool, impl.TyChar} {
		if ty != i {
			t.Errorf("type %d is %d", i, ty)
		}
	}
}

func TestRightTrees(t *testing.T) {
	wantTree(t, moduleNode(), true)
	wantTree(t, fullTree(), true)
	met := map[int]bool{}
	full := fullTree()
	eachNode(&full, func(n *impl.Node) { met[n.Kind] = true })
	if len(met) != 27 {
		t.Error("the full tree has so many Kinds:", len(met))
	}
	wantTree(t, namedNode(impl.NdModule, 0, strings.Repeat("n", 40), blockNode()), true)
	wantTree(t, impl.Node{Kind: impl.NdModule, Name: "M", Kids: []impl.Node{{Kind: impl.NdBlock, Kids: []impl.Node{}}}}, true)
}

// A tree that begins with anything but an NdModule is not right, be it as the table says or not.
func TestNodesThatAreNoModule(t *testing.T) {
	full := fullTree()
	eachNode(&full, func(n *impl.Node) {
		wantTree(t, *n, n.Kind == impl.NdModule)
	})
	wantTree(t, impl.Node{}, false)
	wantTree(t, moduleNode(moduleNode()), false)
}

// Each field of each node is changed, one at a time, and held against the table.
func TestTreesWithOneChange(t *testing.T) {
	right := tableOracle()
	count := map[bool]int{}
	changed := func(change func(n *impl.Node)) {
		tree := fullTree()
		change(&tree)
		count[right(tree)]++
		wantTree(t, tree, right(tree))
	}
	size := impl.Size(fullTree())
	for at := range size {
		here := func(change func(n *impl.Node)) {
			changed(func(tree *impl.Node) {
				i := 0
				eachNode(tree, func(n *impl.Node) {
					if i == at {
						change(n)
					}
					i++
				})
			})
		}
		for _, number := range numbersOfNodes {
			here(func(n *impl.Node) { n.N = number })
		}
		for _, text := range textsOfNodes {
			here(func(n *impl.Node) { n.Name = text })
			here(func(n *impl.Node) { n.Of = text })
		}
		for kind := -1; kind <= 29; kind++ {
			here(func(n *impl.Node) { n.Kind = kind })
		}
	}
	if count[true] < 500 || count[false] < 5000 {
		t.Error("so many trees are right, and are not:", count)
	}
}

var numbersOfNodes = []int{
	math.MinInt, -1 << 32, -1, 0, 1, 2, 3, 4, 100, 101, 0xD7FF, 0xD800, 0xDFFF, 0xE000, 0x10FFFF, 0x110000,
	1 << 32, 1<<32 + 1, 999999999999999999, 1000000000000000000, math.MaxInt,
}

var textsOfNodes = append(strings.Fields(documentKeys+" "+documentSigns),
	"", "x", "_", "Zz_9", "9", "x y", "x.y", "é", "x\x00", "\xff", strings.Repeat("n", 40), strings.Repeat("n", 41), strings.Repeat("n", 70000), " -", "==", "end", "/", "not")

// samples has of each Kind a node that is as the table says.
func samples() map[int]impl.Node {
	list := map[int]impl.Node{}
	full := fullTree()
	eachNode(&full, func(n *impl.Node) { list[n.Kind] = *n })
	list[0] = impl.Node{}
	list[28] = impl.Node{Kind: 28}
	list[-5] = impl.Node{Kind: -5, N: 1, Name: "x"}
	return list
}

// Kids are taken away, given twice, put into another order, and each Kind is put ahead of, in place of and behind each one.
func TestTreesWithOtherKids(t *testing.T) {
	right := tableOracle()
	others := samples()
	count := map[bool]int{}
	size := impl.Size(fullTree())
	for at := range size {
		here := func(change func(kids []impl.Node) []impl.Node) {
			tree := fullTree()
			i := 0
			eachNode(&tree, func(n *impl.Node) {
				if i == at {
					n.Kids = change(n.Kids)
				}
				i++
			})
			count[right(tree)]++
			wantTree(t, tree, right(tree))
		}
		tree, i, kids := fullTree(), 0, 0
		eachNode(&tree, func(n *impl.Node) {
			if i == at {
				kids = len(n.Kids)
			}
			i++
		})
		here(func([]impl.Node) []impl.Node { return nil })
		for k := 0; k <= kids; k++ {
			for _, other := range others {
				here(func(kids []impl.Node) []impl.Node {
					return append(kids[:k:k], append([]impl.Node{other}, kids[k:]...)...)
				})
				if k < kids {
					here(func(kids []impl.Node) []impl.Node { kids[k] = other; return kids })
				}
			}
			if k < kids {
				here(func(kids []impl.Node) []impl.Node { return append(kids[:k:k], kids[k+1:]...) })
				here(func(kids []impl.Node) []impl.Node { return kids[:k] })
				here(func(kids []impl.Node) []impl.Node { return kids[k:] })
				here(func(kids []impl.Node) []impl.Node { kids[0], kids[k] = kids[k], kids[0]; return kids })
			}
		}
	}
	if count[true] < 500 || count[false] < 1000 {
		t.Error("so many trees are right, and are not:", count)
	}
}

// many is an NdModule of that many nodes.
func many(nodes int) impl.Node {
	statements := make([]impl.Node, nodes-2)
	for i := range statements {
		statements[i] = node(impl.NdReturn)
	}
	return moduleNode(statements...)
}

// deep is an NdModule that is that deep.
func deep(levels int) impl.Node {
	value := intNode(1)
	for range levels - 4 {
		value = binaryNode("*", value, intNode(2))
	}
	return moduleNode(writeNode(value))
}

func TestBoundsOfTrees(t *testing.T) {
	wantTree(t, many(699), true)
	wantTree(t, many(700), true)
	wantTree(t, many(701), false)
	wantTree(t, many(5000), false)
	wantTree(t, many(100000), false)
	if d := depth(deep(40)); d != 40 {
		t.Fatal("depth", d)
	}
	wantTree(t, deep(39), true)
	wantTree(t, deep(40), true)
	wantTree(t, deep(41), false)
	wantTree(t, deep(1000), false)
	wide := many(400)
	wide.Kids[0].Kids = append(wide.Kids[0].Kids, many(302).Kids[0].Kids...)
	wantTree(t, wide, true)
	wide.Kids[0].Kids = append(wide.Kids[0].Kids, node(impl.NdReturn))
	wantTree(t, wide, false)
	var blocks []impl.Node
	for range 116 { // six nodes each
		blocks = append(blocks, node(impl.NdIf, numberNode(impl.NdBool, 1), blockNode(node(impl.NdReturn)), blockNode(node(impl.NdReturn))))
	}
	wantTree(t, moduleNode(append(blocks, node(impl.NdReturn), node(impl.NdReturn))...), true)
	wantTree(t, moduleNode(append(blocks, node(impl.NdReturn), writeNode(intNode(1)))...), false)
}

// chain is a tree of that many nodes, each within the one ahead.
func chain(nodes int) impl.Node {
	n := impl.Node{Kind: impl.NdUnary, Name: "-"}
	for range nodes - 1 {
		n = unaryNode("-", n)
	}
	return n
}

func TestTreesTooLargeForAnything(t *testing.T) {
	long := chain(1000000)
	if got := impl.Size(long); got != 1000000 {
		t.Error("Size of a chain:", got)
	}
	wide := impl.Node{Kids: make([]impl.Node, 3000000)}
	if got := impl.Size(wide); got != 3000001 {
		t.Error("Size of a wide tree:", got)
	}
	for _, n := range []impl.Node{long, wide, namedNode(impl.NdModule, 0, "M", long), moduleNode(writeNode(long)), moduleNode(wide.Kids...)} {
		if text, code := impl.Print(n); impl.TreeOK(n) || code != impl.ErrBad || text != "" {
			t.Error("a tree too large is right:", code)
		}
	}
}

// Trees whose lists share memory are as large as they would be without.
func TestTreesThatShareMemory(t *testing.T) {
	n, want := intNode(1), 1
	for range 61 {
		n, want = binaryNode("+", n, n), 2*want+1
		if got := impl.Size(n); got != want {
			t.Errorf("Size = %d, want %d", got, want)
		}
	}
	n, want = binaryNode("+", n, n), math.MaxInt
	if got := impl.Size(n); got != want {
		t.Errorf("Size = %d, want the most there is", got)
	}
	for range 3 {
		n = binaryNode("+", n, n)
		if got := impl.Size(n); got != math.MaxInt || impl.TreeOK(moduleNode(writeNode(n))) {
			t.Errorf("Size = %d of what no int holds", got)
		}
	}
	kids := make([]impl.Node, 64)
	for i := range kids {
		kids[i] = impl.Node{Kind: impl.NdCall, Name: "f", Kids: kids[i+1:]}
	}
	for i, n := range kids {
		want := math.MaxInt
		if i > 0 {
			want = 1 << (63 - i)
		}
		if got := impl.Size(n); got != want {
			t.Errorf("Size = %d, want %d", got, want)
		}
	}
	shared := []impl.Node{intNode(1)}
	wantTree(t, moduleNode(impl.Node{Kind: impl.NdWrite, Kids: shared}, impl.Node{Kind: impl.NdWrite, Kids: shared}), true)
}

// What stands within itself is no tree; no call hangs on it.
func TestListsWithinThemselves(t *testing.T) {
	for kind := range 28 {
		kids := make([]impl.Node, 2)
		kids[0] = impl.Node{Kind: kind, Name: "x", Kids: kids[:1]}
		kids[1] = impl.Node{Kind: kind, Kids: kids}
		for _, n := range append(kids, moduleNode(kids...), moduleNode(writeNode(kids[1]))) {
			if text, code := impl.Print(n); impl.TreeOK(n) || code != impl.ErrBad || text != "" {
				t.Error("a list within itself is right")
			}
			if impl.Size(n) != math.MaxInt {
				t.Error("a list within itself has an end")
			}
		}
	}
	blocks := make([]impl.Node, 1)
	blocks[0] = node(impl.NdBlock, node(impl.NdWhile, numberNode(impl.NdBool, 1), impl.Node{Kind: impl.NdBlock}))
	blocks[0].Kids[0].Kids[1].Kids = blocks[0].Kids
	if n := namedNode(impl.NdModule, 0, "M", blocks...); impl.TreeOK(n) || impl.Size(n) != math.MaxInt {
		t.Error("a block within itself is right")
	}
}

// Nothing is written behind the end of a list that is handed in, nor into it.
func TestTreesAreLeftAlone(t *testing.T) {
	var widen func(n *impl.Node)
	widen = func(n *impl.Node) {
		kids := make([]impl.Node, len(n.Kids)+3)
		for i := range kids {
			kids[i] = impl.Node{Kind: 99, Name: "behind"}
		}
		copy(kids, n.Kids)
		n.Kids = kids[:len(n.Kids)]
		for i := range n.Kids {
			widen(&n.Kids[i])
		}
	}
	tree := fullTree()
	widen(&tree)
	text, code := impl.Print(tree)
	if code != impl.OK || !impl.TreeOK(tree) || impl.Size(tree) != impl.Size(fullTree()) {
		t.Error("a tree with room behind its lists:", text, code)
	}
	if !reflect.DeepEqual(copyTree(tree), copyTree(fullTree())) {
		t.Error("a tree is changed")
	}
	eachNode(&tree, func(n *impl.Node) {
		for _, kid := range n.Kids[len(n.Kids):cap(n.Kids)] {
			if kid.Kind != 99 || kid.Name != "behind" {
				t.Error("something is written behind a list:", kid)
			}
		}
	})
}
