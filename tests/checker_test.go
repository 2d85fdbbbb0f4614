package tests

import (
	"math/rand"
	"reflect"
	"strconv"
	"strings"
	"testing"

	"loop.example/g00168/impl"
)

// rules is a reading of chapter 4 of the tests' own: it goes along a tree by pointers, and stops by a panic at the first fault.
type rules struct {
	places  map[*impl.Node]int
	module  string
	imports map[string]impl.Interface
	outer   map[string]known
	inner   map[string]known // nil outside of procedures
	due     int
	items   []impl.Item
}

// known is what a name stands for: what is 'i' for imports, 'c', 'v' and 'p'; home of what the module has itself.
type known struct {
	what byte
	home bool
	item impl.Item
}

type told struct{ code, place int }

func checkByRules(tree impl.Node, imports []impl.Interface) (items []impl.Item, end told) {
	r := &rules{places: map[*impl.Node]int{}, module: tree.Name, imports: map[string]impl.Interface{}, outer: map[string]known{}}
	eachNode(&tree, func(n *impl.Node) { r.places[n] = len(r.places) })
	for _, x := range imports {
		r.imports[x.Module] = x
	}
	defer func() {
		if at, ok := recover().(told); ok {
			items, end = nil, at
		}
	}()
	for i := range tree.Kids {
		r.part(&tree.Kids[i])
	}
	return r.items, told{}
}

func (r *rules) must(holds bool, code int, n *impl.Node) {
	if !holds {
		panic(told{code, r.places[n]})
	}
}

func (r *rules) add(n *impl.Node, k known) {
	names := r.outer
	if r.inner != nil {
		names = r.inner
	}
	r.must(names[n.Name].what == 0, impl.ErrTwice, n)
	k.home, k.item.Name = k.what != 'i', n.Name
	names[n.Name] = k
	if r.inner == nil && n.N == 1 {
		r.items = append(r.items, k.item)
	}
}

func (r *rules) part(n *impl.Node) {
	switch n.Kind {
	case impl.NdImport:
		r.must(n.Name != r.module, impl.ErrCycle, n)
		_, there := r.imports[n.Name]
		r.must(there, impl.ErrNone, n)
		r.add(n, known{what: 'i'})
	case impl.NdConst:
		ty := r.some(&n.Kids[0])
		r.add(n, known{what: 'c', item: impl.Item{Kind: impl.ItConst, Type: ty, Value: r.fold(&n.Kids[0])}})
	case impl.NdVar:
		r.must(r.inner == nil || n.N == 0, impl.ErrPlace, n)
		item := impl.Item{Kind: impl.ItVar, Type: n.Kids[0].N}
		if n.Kids[0].Kind == impl.NdArray {
			item.Length, item.Type = n.Kids[0].N, n.Kids[0].Kids[0].N
		}
		r.add(n, known{what: 'v', item: item})
	case impl.NdParam:
		r.add(n, known{what: 'v', item: impl.Item{Kind: impl.ItVar, Type: n.Kids[0].N}})
	case impl.NdProc:
		r.procedure(n)
	case impl.NdBlock:
		for i := range n.Kids {
			r.statement(&n.Kids[i])
		}
	}
}

func (r *rules) procedure(n *impl.Node) {
	item := impl.Item{Kind: impl.ItProc}
	for _, kid := range n.Kids {
		switch kid.Kind {
		case impl.NdParam:
			item.Params = append(item.Params, impl.Param{Type: kid.Kids[0].N, ByVar: kid.N == 1})
		case impl.NdResult:
			item.Type = kid.N
		}
	}
	r.must(len(item.Params) < 21, impl.ErrMany, n)
	r.add(n, known{what: 'p', item: item})
	r.inner, r.due = map[string]known{}, item.Type
	for i := range n.Kids {
		r.part(&n.Kids[i])
	}
	r.inner, r.due = nil, 0
}

func (r *rules) sees(name string) known {
	if k, ok := r.inner[name]; ok {
		return k
	}
	return r.outer[name]
}

func (r *rules) what(n *impl.Node) known {
	if n.Of == "" {
		k := r.sees(n.Name)
		r.must(k.what != 0 && k.what != 'i', impl.ErrName, n)
		return k
	}
	r.must(r.sees(n.Of).what == 'i', impl.ErrName, n)
	for _, item := range r.imports[n.Of].Items {
		if item.Name == n.Name {
			return known{what: "?cvp"[item.Kind], item: item}
		}
	}
	r.must(false, impl.ErrName, n)
	return known{}
}

func (r *rules) statement(n *impl.Node) {
	switch n.Kind {
	case impl.NdAssign:
		r.of(&n.Kids[1], r.given(&n.Kids[0]))
	case impl.NdCall:
		r.must(r.typeOf(n) == 0, impl.ErrResult, n)
	case impl.NdIf, impl.NdWhile:
		r.of(&n.Kids[0], impl.TyBool)
		for i := range n.Kids[1:] {
			r.part(&n.Kids[1+i])
		}
	case impl.NdReturn:
		r.must(len(n.Kids) == 1 && r.due > 0 || len(n.Kids) == 0 && r.due == 0, impl.ErrResult, n)
		if r.due > 0 {
			r.of(&n.Kids[0], r.due)
		}
	case impl.NdWrite:
		r.some(&n.Kids[0])
	case impl.NdRead:
		r.must(r.given(&n.Kids[0]) != impl.TyBool, impl.ErrType, &n.Kids[0])
	}
}

func (r *rules) given(n *impl.Node) int {
	ty := r.typeOf(n)
	name := n
	if n.Kind == impl.NdIndex {
		name = &n.Kids[0]
	}
	k := r.what(name)
	r.must(k.what == 'v' && k.home, impl.ErrPlace, n)
	return ty
}

func (r *rules) some(n *impl.Node) int {
	ty := r.typeOf(n)
	r.must(ty != 0, impl.ErrResult, n)
	return ty
}

func (r *rules) of(n *impl.Node, ty int) {
	r.must(r.some(n) == ty, impl.ErrType, n)
}

func (r *rules) array(n *impl.Node) int {
	k := r.what(n)
	r.must(k.what == 'v' && k.item.Length > 0, impl.ErrType, n)
	return k.item.Type
}

func (r *rules) typeOf(n *impl.Node) int {
	all := func(ty int) {
		for i := range n.Kids {
			r.of(&n.Kids[i], ty)
		}
	}
	switch n.Kind {
	case impl.NdInt, impl.NdBool, impl.NdChar:
		return map[int]int{impl.NdInt: impl.TyInt, impl.NdBool: impl.TyBool, impl.NdChar: impl.TyChar}[n.Kind]
	case impl.NdName:
		k := r.what(n)
		r.must(k.what != 'p' && k.item.Length == 0, impl.ErrType, n)
		return k.item.Type
	case impl.NdIndex:
		ty := r.array(&n.Kids[0])
		r.of(&n.Kids[1], impl.TyInt)
		return ty
	case impl.NdLen:
		r.array(&n.Kids[0])
	case impl.NdOrd:
		all(impl.TyChar)
	case impl.NdChr:
		all(impl.TyInt)
		return impl.TyChar
	case impl.NdCall:
		return r.called(n)
	default:
		switch n.Name {
		case "~", "&", "OR":
			all(impl.TyBool)
			return impl.TyBool
		case "=", "#", "<", ">", "<=", ">=":
			first := r.some(&n.Kids[0])
			r.must(n.Name == "=" || n.Name == "#" || first != impl.TyBool, impl.ErrType, &n.Kids[0])
			r.of(&n.Kids[1], first)
			return impl.TyBool
		}
		all(impl.TyInt)
	}
	return impl.TyInt
}

func (r *rules) called(n *impl.Node) int {
	k := r.what(n)
	r.must(k.what == 'p', impl.ErrType, n)
	r.must(len(k.item.Params) == len(n.Kids), impl.ErrCount, n)
	for i, param := range k.item.Params {
		kid := &n.Kids[i]
		if param.ByVar {
			r.must(kid.Kind == impl.NdName || kid.Kind == impl.NdIndex, impl.ErrPlace, kid)
			r.must(r.given(kid) == param.Type, impl.ErrType, kid)
		} else {
			r.of(kid, param.Type)
		}
	}
	return k.item.Type
}

func (r *rules) fold(n *impl.Node) int {
	sides := [2]int{}
	for i := range n.Kids {
		sides[i%2] = r.fold(&n.Kids[i])
	}
	a, b := sides[0], sides[1]
	switch n.Kind {
	case impl.NdInt, impl.NdBool, impl.NdChar:
		return n.N
	case impl.NdName:
		k := r.what(n)
		r.must(k.what == 'c', impl.ErrPlace, n)
		return k.item.Value
	case impl.NdUnary:
		return map[string]int{"-": -a, "~": a ^ 1}[n.Name]
	case impl.NdOrd:
		return a
	case impl.NdChr:
		r.must(a >= 0 && a < 0xD800 || a > 0xDFFF && a <= 0x10FFFF, impl.ErrRange, n)
		return a
	case impl.NdBinary:
		if n.Name == "DIV" || n.Name == "MOD" {
			r.must(b != 0, impl.ErrRange, n)
			mod := (a%b + b) % b // as b is small in the tests' modules, nothing wraps
			return map[string]int{"DIV": (a - mod) / b, "MOD": mod}[n.Name]
		}
		is := map[bool]int{true: 1}
		return map[string]int{"+": a + b, "-": a - b, "*": a * b, "&": a * b, "OR": a | b, "=": is[a == b], "#": is[a != b], "<": is[a < b], "<=": is[a <= b], ">": is[a > b], ">=": is[a >= b]}[n.Name]
	}
	r.must(false, impl.ErrPlace, n)
	return 0
}

// typedMaker makes modules up that mostly check, with the names that it has given so far.
type typedMaker struct {
	source       *rand.Rand
	outer, inner []known
	room         int
}

func (m *typedMaker) some(most int) int { return m.source.Intn(most + 1) }

func (m *typedMaker) fresh(what byte) string {
	return string(what) + strconv.Itoa(len(m.outer)+len(m.inner))
}

// pick is a name of which it holds, with its module where it has one.
func (m *typedMaker) pick(kind int, holds func(known) bool) (impl.Node, known, bool) {
	var list []known
	for _, k := range append(append([]known(nil), m.outer...), m.inner...) {
		if holds(k) {
			list = append(list, k)
		}
	}
	if len(list) == 0 {
		return impl.Node{}, known{}, false
	}
	k := list[m.source.Intn(len(list))]
	of := ""
	if !k.home {
		of = "A"
	}
	return ofNode(kind, of, k.item.Name), k, true
}

func (m *typedMaker) literal(ty int) impl.Node {
	switch ty {
	case impl.TyInt:
		return intNode(m.some(30))
	case impl.TyBool:
		return numberNode(impl.NdBool, m.some(1))
	}
	return numberNode(impl.NdChar, m.some(200))
}

func (m *typedMaker) variable(ty, levels int, home bool) (impl.Node, bool) {
	holds := func(array bool) func(known) bool {
		return func(k known) bool {
			return k.what == 'v' && k.item.Type == ty && (k.item.Length > 0) == array && (k.home || !home)
		}
	}
	if m.some(2) == 0 {
		if name, _, ok := m.pick(impl.NdName, holds(true)); ok {
			return node(impl.NdIndex, name, m.value(impl.TyInt, levels-1)), true
		}
	}
	name, _, ok := m.pick(impl.NdName, holds(false))
	return name, ok
}

func (m *typedMaker) value(ty, levels int) impl.Node {
	m.room--
	if levels < 1 || m.room < 0 {
		return m.literal(ty)
	}
	switch m.some(6) {
	case 0:
		return m.literal(ty)
	case 1:
		if name, _, ok := m.pick(impl.NdName, func(k known) bool { return k.what == 'c' && k.item.Type == ty }); ok {
			return name
		}
	case 2:
		if n, ok := m.variable(ty, levels, false); ok {
			return n
		}
	case 3:
		if n, ok := m.call(ty, levels); ok {
			return n
		}
	}
	return m.worked(ty, levels-1)
}

// worked is a value of that type with signs and words alone.
func (m *typedMaker) worked(ty, levels int) impl.Node {
	binary := func(signs string, ty int) impl.Node {
		list := strings.Fields(signs)
		return binaryNode(list[m.some(len(list)-1)], m.value(ty, levels), m.value(ty, levels))
	}
	switch {
	case ty == impl.TyChar:
		return node(impl.NdChr, m.value(impl.TyInt, levels))
	case ty == impl.TyInt && m.some(4) == 0:
		return node(impl.NdOrd, m.value(impl.TyChar, levels))
	case ty == impl.TyInt && m.some(3) == 0:
		if name, _, ok := m.pick(impl.NdName, func(k known) bool { return k.item.Length > 0 }); ok && m.some(1) == 0 {
			return node(impl.NdLen, name)
		}
		return unaryNode("-", m.value(ty, levels))
	case ty == impl.TyInt:
		return binary("+ - * DIV MOD", ty)
	}
	switch m.some(4) {
	case 0:
		return unaryNode("~", m.value(ty, levels))
	case 1:
		return binary("= #", 1+m.some(2))
	case 2:
		return binary("< <= > >=", []int{impl.TyInt, impl.TyChar}[m.some(1)])
	}
	return binary("& OR", ty)
}

func (m *typedMaker) call(ty, levels int) (impl.Node, bool) {
	n, k, ok := m.pick(impl.NdCall, func(k known) bool { return k.what == 'p' && k.item.Type == ty })
	for _, param := range k.item.Params {
		kid := impl.Node{}
		if param.ByVar {
			there := false
			if kid, there = m.variable(param.Type, levels-1, true); !there {
				return impl.Node{}, false
			}
		} else {
			kid = m.value(param.Type, levels-1)
		}
		n.Kids = append(n.Kids, kid)
	}
	return n, ok
}

func (m *typedMaker) statement(result, levels int) impl.Node {
	m.room -= 2
	ty := 1 + m.some(2)
	switch m.some(7) {
	case 0:
		if n, ok := m.variable(ty, 2, true); ok && ty != impl.TyBool {
			return node(impl.NdRead, n)
		}
	case 1:
		if n, ok := m.call(0, 3); ok {
			return n
		}
	case 2, 3:
		if n, ok := m.variable(ty, 3, true); ok {
			return node(impl.NdAssign, n, m.value(ty, 3))
		}
	case 4:
		if result == 0 {
			return node(impl.NdReturn)
		}
		return node(impl.NdReturn, m.value(result, 3))
	case 5:
		if levels > 0 {
			return node(impl.NdWhile, m.value(impl.TyBool, 2), m.block(result, levels-1))
		}
	case 6:
		if levels > 0 {
			n := node(impl.NdIf, m.value(impl.TyBool, 2), m.block(result, levels-1))
			if m.some(1) == 0 {
				n.Kids = append(n.Kids, m.block(result, levels-1))
			}
			return n
		}
	}
	return writeNode(m.value(ty, 3))
}

func (m *typedMaker) block(result, levels int) impl.Node {
	n := blockNode()
	for range m.some(3) {
		if m.room > 0 {
			n.Kids = append(n.Kids, m.statement(result, levels))
		}
	}
	return n
}

func (m *typedMaker) givenVariable(home *[]known) impl.Node {
	item := impl.Item{Kind: impl.ItVar, Type: 1 + m.some(2), Name: m.fresh('v')}
	ty := typeNode(item.Type)
	if m.some(2) == 0 {
		item.Length = 1 + m.some(99)
		ty = numberNode(impl.NdArray, item.Length, ty)
	}
	*home = append(*home, known{'v', true, item})
	return namedNode(impl.NdVar, 0, item.Name, ty)
}

func (m *typedMaker) procedure() impl.Node {
	item := impl.Item{Kind: impl.ItProc, Type: m.some(3), Name: m.fresh('p')}
	var kids []impl.Node
	for range m.some(3) {
		param := impl.Param{Type: 1 + m.some(2), ByVar: m.some(1) == 0}
		item.Params = append(item.Params, param)
		name := m.fresh('q')
		m.inner = append(m.inner, known{'v', true, impl.Item{Kind: impl.ItVar, Type: param.Type, Name: name}})
		kids = append(kids, namedNode(impl.NdParam, map[bool]int{true: 1}[param.ByVar], name, typeNode(param.Type)))
	}
	kids = append(kids, numberNode(impl.NdResult, item.Type))
	for range m.some(2) {
		kids = append(kids, m.givenVariable(&m.inner))
	}
	m.outer = append(m.outer, known{'p', true, item})
	kids = append(kids, m.block(item.Type, 2))
	m.inner = nil
	return namedNode(impl.NdProc, m.some(1), item.Name, kids...)
}

func (m *typedMaker) module() impl.Node {
	kids := []impl.Node{namedNode(impl.NdImport, 0, "B"), namedNode(impl.NdImport, 0, "A")}
	for _, item := range importA().Items {
		m.outer = append(m.outer, known{"?cvp"[item.Kind], false, item})
	}
	for range m.some(3) {
		ty := 1 + m.some(2)
		given := m.outer
		m.outer = nil
		for _, k := range given {
			if k.what == 'c' {
				m.outer = append(m.outer, k)
			}
		}
		value := m.value(ty, 2)
		m.outer = given
		name := m.fresh('c')
		kids = append(kids, namedNode(impl.NdConst, m.some(1), name, value))
		m.outer = append(m.outer, known{'c', true, impl.Item{Kind: impl.ItConst, Type: ty, Name: name}})
	}
	for range 2 + m.some(4) {
		n := m.givenVariable(&m.outer)
		n.N = m.some(1)
		kids = append(kids, n)
	}
	for range m.some(3) {
		kids = append(kids, m.procedure())
	}
	return namedNode(impl.NdModule, 0, "M", append(kids, m.block(0, 3))...)
}

func checkedModule(source *rand.Rand) impl.Node {
	m := &typedMaker{source: source, room: 20 + source.Intn(300)}
	return m.module()
}

// wronged is the tree with something in it changed; it may be no right one any more.
func wronged(source *rand.Rand, tree impl.Node) impl.Node {
	tree = copyTree(tree)
	var list []*impl.Node
	eachNode(&tree, func(n *impl.Node) { list = append(list, n) })
	other := func() *impl.Node { return list[source.Intn(len(list))] }
	n := list[source.Intn(len(list))]
	switch source.Intn(9) {
	case 0:
		for n.Name == "" {
			n = other()
		}
		n.Name = []string{"M", "C", "A", n.Name, other().Name, other().Name}[source.Intn(6)]
	case 1:
		for n.Kind != impl.NdCall && n.Kind != impl.NdName && source.Intn(100) > 0 {
			n = other()
		}
		n.Of = []string{"", "A", "B", "M", other().Name}[source.Intn(5)]
	case 2, 3:
		with := *other()
		for range 200 {
			if isValue(n.Kind) == isValue(with.Kind) && n.Kind != impl.NdModule {
				*n = copyTree(with)
				break
			}
			n, with = other(), *other()
		}
	case 4:
		for len(n.Kids) == 0 || n.Kind != impl.NdCall && source.Intn(10) > 0 {
			n = other()
		}
		n.Kids = n.Kids[1:]
	case 5:
		n.Kids = append(n.Kids, intNode(1))
	case 6:
		n.N = source.Intn(4)
	case 7:
		if len(n.Kids) > 1 {
			at := source.Intn(len(n.Kids) - 1)
			n.Kids[at], n.Kids[at+1] = n.Kids[at+1], n.Kids[at]
		}
	case 8:
		if len(n.Kids) > 0 {
			n.Kids = append(n.Kids, copyTree(n.Kids[source.Intn(len(n.Kids))]))
		}
	}
	return copyTree(tree)
}

func isValue(kind int) bool { return kind >= impl.NdInt }

// wantByRules holds Check and InterfaceOf against the tests' own reading, and answers the code.
func wantByRules(t *testing.T, tree impl.Node, imports []impl.Interface) int {
	t.Helper()
	before := copyTree(tree)
	items, want := checkByRules(tree, imports)
	code, place := impl.Check(tree, imports)
	if code != want.code || place != want.place {
		text, _ := impl.Print(tree)
		t.Errorf("Check: code %d at %d, want %d at %d:\n%s", code, place, want.code, want.place, text)
	}
	x, code := impl.InterfaceOf(tree, imports)
	wantItems := impl.Interface{Module: tree.Name, Items: items}
	if want.code != impl.OK {
		wantItems = impl.Interface{}
	}
	if code != want.code || !sameInterface(x, wantItems) {
		t.Errorf("InterfaceOf: %v, code %d, want %v, code %d", x, code, wantItems, want.code)
	}
	if code == impl.OK && !wantInterface(t, x) {
		t.Error("what a module exports is not right:", x)
	}
	if !reflect.DeepEqual(copyTree(tree), before) || !reflect.DeepEqual(imports, someImports()) {
		t.Error("an argument is changed")
	}
	return code
}

// Promise 4: a module checks, or has one first fault; its interface is read back.
func TestModulesAgainstTheRules(t *testing.T) {
	source := rand.New(rand.NewSource(9))
	codes := map[int]int{}
	for range 4000 {
		tree := checkedModule(source)
		codes[wantByRules(t, tree, someImports())]++
		for range 4 {
			wrong := wronged(source, tree)
			if !impl.TreeOK(wrong) {
				if code, place := impl.Check(wrong, someImports()); code != impl.ErrBad || place != 0 {
					t.Error("a tree that is not right: code", code, place)
				}
				continue
			}
			tree = wrong
			codes[wantByRules(t, tree, someImports())]++
		}
		if t.Failed() {
			return
		}
	}
	for _, code := range []int{impl.OK, impl.ErrName, impl.ErrTwice, impl.ErrType, impl.ErrCount, impl.ErrResult, impl.ErrPlace, impl.ErrRange, impl.ErrNone, impl.ErrCycle} {
		if codes[code] < 40 {
			t.Error("so many have each code:", codes)
			break
		}
	}
}

// Promise 4: of trees that are not made to check, too.
func TestTreesAgainstTheRules(t *testing.T) {
	source := rand.New(rand.NewSource(10))
	for range 3000 {
		tree := randomTree(source)
		eachNode(&tree, func(n *impl.Node) {
			if n.Kind == impl.NdImport {
				n.Name = []string{"A", "B", "Other", "C"}[source.Intn(4)]
			}
			if n.Of != "" {
				n.Of = "A"
			}
		})
		wantByRules(t, tree, someImports())
	}
}

// What a module is, its text is: code and place are the same behind Print and Parse.
func TestPrintedModulesCheckAlike(t *testing.T) {
	source := rand.New(rand.NewSource(13))
	for range 1500 {
		tree := wronged(source, checkedModule(source))
		text, code := impl.Print(tree)
		if code != impl.OK {
			continue
		}
		again, code, _ := impl.Parse(text)
		if code != impl.OK {
			continue
		}
		code, place := impl.Check(tree, someImports())
		if codeAgain, placeAgain := impl.Check(again, someImports()); code != codeAgain || place != placeAgain {
			t.Errorf("code %d at %d, and printed and parsed code %d at %d:\n%s", code, place, codeAgain, placeAgain, text)
		}
	}
}
