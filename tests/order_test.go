package tests

import (
	"math/rand"
	"reflect"
	"slices"
	"strconv"
	"strings"
	"testing"

	"loop.example/g00168/impl"
)

// importsOf are the modules that a tree imports.
func importsOf(tree impl.Node) []string {
	var list []string
	for _, kid := range tree.Kids {
		if kid.Kind == impl.NdImport {
			list = append(list, kid.Name)
		}
	}
	return list
}

// orderByRules takes modules all of whose imports it has taken, round by round, and orders by the first place in what each needs, written out.
func orderByRules(list []impl.Source, main string, right func(impl.Node) bool) ([]string, int) {
	trees := map[string]impl.Node{}
	for _, s := range list {
		if trees[s.Name] = s.Tree; !right(s.Tree) || s.Tree.Name != s.Name {
			return nil, impl.ErrBad
		}
	}
	if len(list) > 20 || len(trees) != len(list) {
		return nil, impl.ErrBad
	}
	whole := map[string][]string{}
	for range len(list) {
		for name, tree := range trees {
			var needs []string
			ready := true
			for _, other := range importsOf(tree) {
				ready = ready && whole[other] != nil
				needs = append(needs, whole[other]...)
			}
			if ready {
				var once []string
				for _, other := range append(needs, name) {
					if !slices.Contains(once, other) {
						once = append(once, other)
					}
				}
				whole[name] = once
			}
		}
	}
	if whole[main] == nil {
		return nil, impl.ErrNone
	}
	return whole[main], impl.OK
}

// checkByOrder are the trees in their order, and false if one does not check, or is imported and exports too much.
func checkByOrder(list []impl.Source, order []string) ([]impl.Node, []impl.Interface, bool) {
	var trees []impl.Node
	var faces []impl.Interface
	for _, module := range order {
		for _, s := range list {
			if s.Name == module {
				trees = append(trees, s.Tree)
			}
		}
		items, fault := checkByRules(trees[len(trees)-1], faces)
		if fault.code != impl.OK {
			return nil, nil, false
		}
		for _, x := range faces {
			if !rightInterface(x) {
				return nil, nil, false
			}
		}
		faces = append(faces, impl.Interface{Module: module, Items: items})
	}
	return trees, faces, true
}

func copySources(list []impl.Source) []impl.Source {
	var all []impl.Source
	for _, s := range list {
		all = append(all, impl.Source{Name: s.Name, Tree: copyTree(s.Tree)})
	}
	return all
}

func sourcesOf(t *testing.T, texts ...string) []impl.Source {
	t.Helper()
	var list []impl.Source
	for _, text := range texts {
		tree := treeOf(t, text)
		list = append(list, impl.Source{Name: tree.Name, Tree: tree})
	}
	return list
}

// wantSources holds Order and SourcesOK against the tests' own reading, and answers the order and its code.
func wantSources(t *testing.T, list []impl.Source, main string) ([]string, int) {
	t.Helper()
	before := copySources(list)
	want, wantCode := orderByRules(list, main, tableOracle())
	order, code := impl.Order(list, main)
	if code != wantCode || !slices.Equal(order, want) {
		t.Errorf("Order(%.900v, %.60q): %v, code %d, want %v, %d", list, main, order, code, want, wantCode)
	}
	wantRight := wantCode == impl.OK
	if wantRight {
		_, _, wantRight = checkByOrder(list, want)
	}
	if right := impl.SourcesOK(list, main); right != wantRight {
		t.Errorf("SourcesOK(%.900v, %.60q) = %v", list, main, right)
	}
	if r, code := impl.Evaluate(list, main, nil, 0); (code == impl.OK) != wantRight || code != impl.OK && (code != impl.ErrBad || !reflect.DeepEqual(r, impl.Result{})) {
		t.Errorf("Evaluate(%.900v, %.60q): %v, code %d, right %v", list, main, r, code, wantRight)
	}
	if !reflect.DeepEqual(copySources(list), before) {
		t.Error("sources are changed:", before)
	}
	return order, code
}

// importing has a source for each text: a module, and those that it imports.
func importing(texts ...string) []impl.Source {
	var list []impl.Source
	for _, text := range texts {
		words := strings.Fields(text)
		tree := namedNode(impl.NdModule, 0, words[0])
		for _, word := range words[1:] {
			tree.Kids = append(tree.Kids, namedNode(impl.NdImport, 0, word))
		}
		tree.Kids = append(tree.Kids, blockNode(writeNode(numberNode(impl.NdChar, int(words[0][0])))))
		list = append(list, impl.Source{Name: words[0], Tree: tree})
	}
	return list
}

// wantOrdered asks for the order, whichever source comes first.
func wantOrdered(t *testing.T, list []impl.Source, code int, want string) {
	t.Helper()
	for range list {
		list = append(slices.Clone(list[1:]), list[0])
		order, got := wantSources(t, list, "M")
		if got != code || strings.Join(order, " ") != want || code != impl.OK && order != nil {
			t.Errorf("Order(%.900v): %v, code %d, want %q, %d", list, order, got, want, code)
			return
		}
		if code != impl.OK || !impl.SourcesOK(list, "M") {
			continue
		}
		r, _ := impl.Evaluate(list, "M", nil, 100)
		var told []string
		for _, out := range r.Out {
			told = append(told, string(rune(out.Value)))
		}
		if strings.Join(told, " ") != want {
			t.Errorf("bodies of %v go in the order %v", order, told)
		}
	}
}

func TestOrderOfImports(t *testing.T) {
	wantOrdered(t, importing("M"), impl.OK, "M")
	wantOrdered(t, importing("M A", "A"), impl.OK, "A M")
	wantOrdered(t, importing("M A B", "A", "B"), impl.OK, "A B M")
	wantOrdered(t, importing("M B A", "A", "B"), impl.OK, "B A M")
	wantOrdered(t, importing("M A", "A B", "B C", "C"), impl.OK, "C B A M")
	wantOrdered(t, importing("M A B", "A C", "B C", "C"), impl.OK, "C A B M")
	wantOrdered(t, importing("M A B", "A B", "B"), impl.OK, "B A M")
	wantOrdered(t, importing("M A B", "A", "B A"), impl.OK, "A B M")
	wantOrdered(t, importing("M A B C", "C B A", "B A", "A"), impl.OK, "A B C M")
	wantOrdered(t, importing("M D A", "A B C", "B", "C", "D C B"), impl.OK, "C B D A M")
	// What is imported twice does not check, but has its place.
	wantOrdered(t, importing("M A A", "A"), impl.OK, "A M")
	wantOrdered(t, importing("M A B A", "A B", "B"), impl.OK, "B A M")
}

func TestImportsThatAreMissing(t *testing.T) {
	wantOrdered(t, importing("A"), impl.ErrNone, "")
	wantOrdered(t, importing("M A"), impl.ErrNone, "")
	wantOrdered(t, importing("M A B", "A"), impl.ErrNone, "")
	wantOrdered(t, importing("M A", "A B"), impl.ErrNone, "")
	wantOrdered(t, importing("M A B", "A", "B C"), impl.ErrNone, "")
	wantOrdered(t, importing("m", "MM", "N"), impl.ErrNone, "")
	for _, main := range []string{"", "a", "A.", "MODULE", "M", strings.Repeat("A", 41), strings.Repeat("A", impl.MaxText)} {
		for _, list := range [][]impl.Source{nil, {}, importing("A")} {
			if order, code := wantSources(t, list, main); order != nil || code != impl.ErrNone {
				t.Errorf("Order(%v, %.60q): %v, code %d", list, main, order, code)
			}
		}
	}
}

func TestImportsThatGoRound(t *testing.T) {
	wantOrdered(t, importing("M M"), impl.ErrNone, "")
	wantOrdered(t, importing("M A", "A A"), impl.ErrNone, "")
	wantOrdered(t, importing("M A", "A M"), impl.ErrNone, "")
	wantOrdered(t, importing("M A", "A B", "B A"), impl.ErrNone, "")
	wantOrdered(t, importing("M A B", "A", "B C", "C B"), impl.ErrNone, "")
	wantOrdered(t, importing("M A", "A B", "B C", "C D", "D M"), impl.ErrNone, "")
	wantOrdered(t, importing("M A", "A B X", "B A"), impl.ErrNone, "")
}

func TestSourcesThatMainDoesNotNeed(t *testing.T) {
	wantOrdered(t, importing("M", "A"), impl.OK, "M")
	wantOrdered(t, importing("M A", "A", "B A", "C M"), impl.OK, "A M")
	wantOrdered(t, importing("M A", "A", "B B"), impl.OK, "A M")
	wantOrdered(t, importing("M A", "A", "B C", "C B"), impl.OK, "A M")
	wantOrdered(t, importing("M A", "A", "B X A", "C M Y"), impl.OK, "A M")
	// They need not check, but they must be right.
	list := append(importing("M A", "A"), sourcesOf(t, "MODULE B; IMPORT A; VAR v: ARRAY 100 OF CHAR; BEGIN x := 1; A.P() END B.")...)
	wantOrdered(t, list, impl.OK, "A M")
	if !impl.SourcesOK(list, "M") || impl.SourcesOK(list, "B") || !impl.SourcesOK(list, "A") {
		t.Error("a source that does not check tells where it is not needed")
	}
	list[2].Tree.Kids[0].N = 1
	wantOrdered(t, list, impl.ErrBad, "")
	for _, main := range []string{"M", "A", "B", "C"} {
		order, code := wantSources(t, importing("M A", "A B", "B C", "C"), main)
		if code != impl.OK || len(order) != 4-strings.Index("MABC", main) || order[len(order)-1] != main {
			t.Error("main", main, order, code)
		}
	}
}

func TestSourcesThatAreNotRight(t *testing.T) {
	for _, c := range []struct {
		name   string
		change func(list []impl.Source) []impl.Source
	}{
		{"another Name than its module's", func(list []impl.Source) []impl.Source { list[1].Name = "B"; return list }},
		{"no Name", func(list []impl.Source) []impl.Source { list[1].Name = ""; return list }},
		{"another module than its Name", func(list []impl.Source) []impl.Source { list[2].Tree.Name = "D"; return list }},
		{"Names that are changed round", func(list []impl.Source) []impl.Source {
			list[1].Name, list[2].Name = list[2].Name, list[1].Name
			return list
		}},
		{"two of one name", func(list []impl.Source) []impl.Source { return append(list, list[1]) }},
		{"two of one name that is not needed", func(list []impl.Source) []impl.Source { return append(list, list[2]) }},
		{"two main ones", func(list []impl.Source) []impl.Source { return append(list, list[0]) }},
		{"no tree", func(list []impl.Source) []impl.Source { list[1].Tree = impl.Node{}; return list }},
		{"nothing", func(list []impl.Source) []impl.Source { return append(list, impl.Source{}) }},
		{"a statement", func(list []impl.Source) []impl.Source { list[0].Tree = writeNode(intNode(1)); return list }},
		{"no body", func(list []impl.Source) []impl.Source { list[1].Tree.Kids = nil; return list }},
		{"a word for a name", func(list []impl.Source) []impl.Source { list[2].Name, list[2].Tree.Name = "IF", "IF"; return list }},
		{"too many nodes", func(list []impl.Source) []impl.Source {
			list[2].Tree.Kids = []impl.Node{blockNode(slices.Repeat([]impl.Node{writeNode(intNode(1))}, 350)...)}
			return list
		}},
	} {
		list := c.change(importing("M A", "A", "C A"))
		for range list {
			list = append(slices.Clone(list[1:]), list[0])
			for _, main := range []string{"M", "A", "C", "X", ""} {
				if order, code := wantSources(t, list, main); code != impl.ErrBad || order != nil {
					t.Errorf("%s, main %q: %v, code %d", c.name, main, order, code)
				}
			}
		}
	}
	// What nests within itself is no right tree.
	list := importing("M", "A")
	list[1].Tree.Kids[0].Kids = list[1].Tree.Kids
	if order, code := impl.Order(list, "M"); code != impl.ErrBad || order != nil || impl.SourcesOK(list, "M") {
		t.Error("a tree within itself:", order, code)
	}
	if r, code := impl.Evaluate(list, "M", nil, 9); code != impl.ErrBad || !reflect.DeepEqual(r, impl.Result{}) {
		t.Error("a tree within itself:", r, code)
	}
}

// manySources has so many modules, of which each imports all that come behind it.
func manySources(many int) []impl.Source {
	var texts []string
	for at := range many {
		text := "A" + strconv.Itoa(at)
		for other := at + 1; other < many; other++ {
			text += " A" + strconv.Itoa(other)
		}
		texts = append(texts, text)
	}
	return importing(texts...)
}

func TestManySources(t *testing.T) {
	long := func(many int) []impl.Source { return make([]impl.Source, many) }
	name := func(length int) string { return strings.Repeat("A", length) }
	for _, c := range []struct {
		list  []impl.Source
		main  string
		input int
		code  int
	}{
		{manySources(19), "A0", 0, impl.OK}, {manySources(20), "A0", 0, impl.OK}, {manySources(20), "A19", 0, impl.OK}, {manySources(21), "A0", 0, impl.ErrBad}, {manySources(21), "A20", 0, impl.ErrBad}, {manySources(30), "A9", 0, impl.ErrBad},
		{long(21), "M", 0, impl.ErrBad}, {long(4096), "M", 0, impl.ErrBad}, {long(4097), "M", 0, impl.ErrLong}, {long(10000), "", 0, impl.ErrLong},
		{manySources(3), name(65536), 0, impl.ErrNone}, {manySources(3), name(65537), 0, impl.ErrLong}, {manySources(21), name(65536), 0, impl.ErrBad}, {manySources(21), name(65537), 0, impl.ErrLong}, {long(4097), name(65537), 0, impl.ErrLong},
		{manySources(3), "A0", 100, impl.OK}, {long(21), "M", 4096, impl.ErrBad},
	} {
		order, code := impl.Order(c.list, c.main)
		if code != c.code || (code == impl.OK) != (len(order) > 0) || impl.SourcesOK(c.list, c.main) != (code == impl.OK) {
			t.Errorf("%d sources, main %.60q: %v, code %d, want %d", len(c.list), c.main, order, code, c.code)
		}
		if c.code == impl.ErrNone {
			c.code = impl.ErrBad
		}
		r, code := impl.Evaluate(c.list, c.main, make([]int, c.input), 1000)
		if code != c.code || (code == impl.OK) != (r.End == impl.EnHalt) || code != impl.OK && !reflect.DeepEqual(r, impl.Result{}) {
			t.Errorf("%d sources, main %.60q: %v, code %d, want %d", len(c.list), c.main, r, code, c.code)
		}
		if len(c.list) <= 30 && len(c.main) < 60 {
			wantSources(t, c.list, c.main)
		}
	}
	if order, _ := impl.Order(manySources(20), "A0"); len(order) != 20 || order[0] != "A19" || order[19] != "A0" {
		t.Error("20 sources:", order)
	}
	// In a long chain, too.
	var texts []string
	for at := range 20 {
		texts = append(texts, strings.TrimSuffix("A"+strconv.Itoa(at)+" A"+strconv.Itoa(at+1), " A20"))
	}
	if order, code := wantSources(t, importing(texts...), "A0"); code != impl.OK || len(order) != 20 || order[0] != "A19" {
		t.Error("a chain:", order, code)
	}
}

// Each checks against the interfaces of those ahead.
func TestSourcesThatCheck(t *testing.T) {
	a := "MODULE A; CONST k* = 3; VAR x*: INTEGER; own: CHAR; w*: ARRAY 3 OF CHAR; PROCEDURE F*(a: INTEGER; VAR c: CHAR): INTEGER; BEGIN RETURN a END F; PROCEDURE P*(); END P; PROCEDURE Own(); END Own; END A."
	ahead := "MODULE M; IMPORT A; VAR i: INTEGER; c: CHAR; BEGIN "
	for _, c := range []struct {
		a, m  string
		right bool
	}{
		{a, ahead + "i := A.F(A.k, c); A.P(); c := A.w[LEN(A.w) - 1] END M.", true},
		{a, "MODULE M; BEGIN WRITE(1) END M.", true},
		{a, "MODULE M; IMPORT A; END M.", true},
		{a, ahead + "i := A.F(c, c) END M.", false},
		{a, ahead + "i := A.F(1, i) END M.", false},
		{a, ahead + "i := A.F(1, \"c\") END M.", false},
		{a, ahead + "i := A.F(1) END M.", false},
		{a, ahead + "i := A.F(1, c, c) END M.", false},
		{a, ahead + "A.F(1, c) END M.", false},
		{a, ahead + "A.P(1) END M.", false},
		{a, ahead + "i := A.P() END M.", false},
		{a, ahead + "c := A.k END M.", false},
		{a, ahead + "c := A.w END M.", false},
		{a, ahead + "i := A.x[0] END M.", false},
		{a, ahead + "A.x := 1 END M.", false},
		{a, ahead + "c := A.own END M.", false},
		{a, ahead + "A.Own() END M.", false},
		{a, ahead + "A.Nothing() END M.", false},
		{a, "MODULE M; IMPORT A, A; END M.", false},
		{a, "MODULE M; BEGIN A.P() END M.", false},
		{a, "MODULE M; BEGIN i := 1 END M.", false},
		{"MODULE A; VAR x*: CHAR; END A.", ahead + "i := A.x END M.", false},
		{"MODULE A; VAR x*: CHAR; END A.", ahead + "c := A.x END M.", true},
		{"MODULE A; BEGIN x := 1 END A.", "MODULE M; IMPORT A; END M.", false},
		{"MODULE A; BEGIN x := 1 END A.", "MODULE M; END M.", true},
		{"MODULE A; CONST k* = 1 DIV 0; END A.", "MODULE M; IMPORT A; END M.", false},
		{"MODULE A; BEGIN RETURN 1 END A.", "MODULE M; IMPORT A; END M.", false},
	} {
		list := sourcesOf(t, c.m, c.a)
		for range 2 {
			slices.Reverse(list)
			if _, code := wantSources(t, list, "M"); code != impl.OK || impl.SourcesOK(list, "M") != c.right {
				t.Errorf("%q, %q: code %d, right %v", c.m, c.a, code, !c.right)
			}
		}
	}
	// What is imported by one ahead is no import of the module's own.
	list := sourcesOf(t, "MODULE M; IMPORT B; BEGIN A.P() END M.", "MODULE B; IMPORT A; BEGIN A.P() END B.", a)
	if _, code := wantSources(t, list, "M"); code != impl.OK || impl.SourcesOK(list, "M") || !impl.SourcesOK(list, "B") {
		t.Error("an import of another module: code", code)
	}
}

// A module may export any number of things, if no other one needs it.
func TestSourcesThatExportMuch(t *testing.T) {
	user := sourcesOf(t, "MODULE U; IMPORT M; END U.")[0]
	far := sourcesOf(t, "MODULE V; IMPORT U; END V.")[0]
	for _, c := range []struct{ consts, vars, procs int }{{0, 0, 0}, {59, 0, 0}, {60, 0, 0}, {61, 0, 0}, {0, 60, 0}, {0, 61, 0}, {0, 0, 60}, {0, 0, 61}, {20, 20, 20}, {20, 20, 21}, {100, 0, 0}} {
		fits := c.consts+c.vars+c.procs <= 60
		list := append(sourcesOf(t, exporting(c.consts, c.vars, c.procs)), user, far)
		for _, main := range []string{"M", "U", "V"} {
			if _, code := wantSources(t, list, main); code != impl.OK || impl.SourcesOK(list, main) != (fits || main == "M") {
				t.Errorf("%v exports, main %s: code %d, right %v", c, main, code, impl.SourcesOK(list, main))
			}
		}
	}
	tree := exportingTree(349, 0)
	list := []impl.Source{{Name: "M", Tree: tree}, user}
	if !impl.SourcesOK(list, "M") || impl.SourcesOK(list, "U") {
		t.Error("349 exports")
	}
}

// Promise 1: of lists made up at random, with imports that are missing, go round, or are not right.
func TestRandomSources(t *testing.T) {
	source := rand.New(rand.NewSource(26))
	codes := map[int]int{}
	right := 0
	for range 6000 {
		many := 1 + source.Intn(6)
		var texts []string
		for at := range many {
			text := string(rune('A' + at))
			for range source.Intn(4) {
				other := source.Intn(many + source.Intn(3)/2)
				if source.Intn(10) > 0 {
					other = at + 1 + source.Intn(many)
				}
				if source.Intn(10) > 0 {
					other = min(other, max(at+1, many-1))
				}
				if word := string(rune('A' + other)); source.Intn(12) == 0 || other < many && !slices.Contains(strings.Fields(text)[1:], word) {
					text += " " + word
				}
			}
			texts = append(texts, text)
		}
		list := importing(texts...)
		source.Shuffle(len(list), func(i, k int) { list[i], list[k] = list[k], list[i] })
		if source.Intn(5) == 0 {
			at := source.Intn(len(list))
			list[at].Tree = wronged(source, list[at].Tree)
		}
		main := string(rune('A' + source.Intn(many)/2))
		_, code := wantSources(t, list, main)
		codes[code]++
		if impl.SourcesOK(list, main) {
			right++
		}
		if t.Failed() {
			return
		}
	}
	for _, code := range []int{impl.OK, impl.ErrBad, impl.ErrNone} {
		if codes[code] < 400 {
			t.Error("so many have each code:", codes)
			break
		}
	}
	if right < 1000 || right > codes[impl.OK]-100 {
		t.Error("so many are right:", right, codes)
	}
}
