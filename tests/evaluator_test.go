package tests

import (
	"math/rand"
	"reflect"
	"slices"
	"testing"

	"loop.example/g00168/impl"
)

// actor is a reading of chapter 7 of the tests' own: each cell has a number, as in the tests' machine, whose ends and sums it takes.
type actor struct {
	runner
	stages map[string]*stage
}

// stage is a module, with the numbers of its variables' cells.
type stage struct {
	*rules
	tree  impl.Node
	cells map[string]int
}

// scene is a procedure, or a module's body, that is on the way.
type scene struct {
	*rules
	stage *stage
	cells map[string]int // of a parameter with VAR the one that it stands for
}

// evaluateByRules does what modules that check say, in their order.
func evaluateByRules(trees []impl.Node, faces []impl.Interface, input []int, fuel int) (r impl.Result) {
	a := &actor{runner{memory: map[int]int{}, input: input, fuel: fuel}, map[string]*stage{}}
	defer func() {
		if o, ok := recover().(over); ok {
			r = a.r
			r.End, r.Trap = o.end, o.trap
		}
	}()
	for i, tree := range trees {
		s := &stage{&rules{module: tree.Name, imports: map[string]impl.Interface{}, outer: map[string]known{}}, tree, map[string]int{}}
		for _, x := range faces[:i] {
			s.imports[x.Module] = x
		}
		for k := range tree.Kids {
			s.part(&tree.Kids[k])
		}
		a.stages[tree.Name] = s
		a.size += place(s.rules, s.cells, tree.Kids, a.size)
	}
	a.must(a.size <= 3000, impl.EnRoom, 0)
	for _, tree := range trees {
		a.perform(a.stages[tree.Name], nil, tree.Kids[len(tree.Kids)-1:], nil)
	}
	panic(over{impl.EnHalt, 0})
}

// place numbers the cells of the variables and parameters among kids, and answers how many they are.
func place(r *rules, cells map[string]int, kids []impl.Node, first int) int {
	many := 0
	for _, kid := range kids {
		if kid.Kind == impl.NdVar || kid.Kind == impl.NdParam {
			cells[kid.Name] = first + many
			many += max(1, r.sees(kid.Name).item.Length)
		}
	}
	return many
}

// perform does the block that stands last among kids, those of a procedure with the names that it gives.
func (a *actor) perform(of *stage, inner map[string]known, kids []impl.Node, given []int) []int {
	r := *of.rules
	r.inner = inner
	result := 0
	for i := range kids[:len(kids)-1] {
		r.part(&kids[i])
		if kids[i].Kind == impl.NdResult {
			result = kids[i].N
		}
	}
	s := &scene{&r, of, map[string]int{}}
	first := a.size
	a.size += place(&r, s.cells, kids, first)
	a.must(a.onWay < 50 && a.size <= 3000, impl.EnRoom, 0)
	a.onWay++
	for at := first; at < a.size; at++ {
		a.memory[at] = 0
	}
	for i, number := range given {
		if kids[i].N == 1 {
			s.cells[kids[i].Name] = number
		} else {
			a.memory[s.cells[kids[i].Name]] = number
		}
	}
	returned, back := a.block(s, &kids[len(kids)-1])
	a.must(returned || result == 0, impl.EnTrap, impl.TrResult)
	a.onWay--
	a.size = first
	return back
}

func (a *actor) spend() {
	a.must(a.r.Used < a.fuel, impl.EnFuel, 0)
	a.r.Used++
}

// block tells whether there was a RETURN, and what it returns.
func (a *actor) block(s *scene, n *impl.Node) (bool, []int) {
	for i := range n.Kids {
		a.spend()
		if returned, back := a.statement(s, &n.Kids[i]); returned {
			return true, back
		}
	}
	return false, nil
}

func (a *actor) statement(s *scene, n *impl.Node) (bool, []int) {
	switch n.Kind {
	case impl.NdAssign:
		at := a.cell(s, &n.Kids[0])
		value := a.value(s, &n.Kids[1])
		a.memory[at] = value
	case impl.NdCall:
		a.called(s, n)
	case impl.NdIf:
		if a.value(s, &n.Kids[0]) == 1 {
			return a.block(s, &n.Kids[1])
		}
		if len(n.Kids) == 3 {
			return a.block(s, &n.Kids[2])
		}
	case impl.NdWhile:
		for a.value(s, &n.Kids[0]) == 1 {
			if returned, back := a.block(s, &n.Kids[1]); returned {
				return true, back
			}
			a.spend()
		}
	case impl.NdReturn:
		var back []int
		for i := range n.Kids {
			back = []int{a.value(s, &n.Kids[i])}
		}
		return true, back
	case impl.NdWrite:
		value := a.value(s, &n.Kids[0])
		a.must(len(a.r.Out) < 1000, impl.EnRoom, 0)
		a.r.Out = append(a.r.Out, impl.Out{Type: s.typeOf(&n.Kids[0]), Value: value})
	case impl.NdRead:
		at := a.cell(s, &n.Kids[0])
		a.must(len(a.input) > 0 && (s.typeOf(&n.Kids[0]) == impl.TyInt || isCharacter(a.input[0])), impl.EnTrap, impl.TrInput)
		a.memory[at], a.input = a.input[0], a.input[1:]
	}
	return false, nil
}

func (a *actor) cell(s *scene, n *impl.Node) int {
	if n.Kind == impl.NdIndex {
		at, index := a.cell(s, &n.Kids[0]), a.value(s, &n.Kids[1])
		a.must(index >= 0 && index < s.what(&n.Kids[0]).item.Length, impl.EnTrap, impl.TrIndex)
		return at + index
	}
	if n.Of != "" {
		return a.stages[n.Of].cells[n.Name]
	}
	if at, own := s.cells[n.Name]; own {
		return at
	}
	return s.stage.cells[n.Name]
}

func (a *actor) value(s *scene, n *impl.Node) int {
	switch n.Kind {
	case impl.NdInt, impl.NdChar, impl.NdBool:
		return n.N
	case impl.NdLen:
		return s.what(&n.Kids[0]).item.Length
	case impl.NdCall:
		return a.called(s, n)[0]
	case impl.NdName:
		if k := s.what(n); k.what == 'c' {
			return k.item.Value
		}
		return a.memory[a.cell(s, n)]
	case impl.NdIndex:
		return a.memory[a.cell(s, n)]
	}
	first := a.value(s, &n.Kids[0])
	switch {
	case n.Kind == impl.NdChr:
		a.must(isCharacter(first), impl.EnTrap, impl.TrChar)
		return first
	case n.Kind == impl.NdOrd, n.Name == "&" && first == 0, n.Name == "OR" && first == 1:
		return first
	case n.Name == "~":
		return 1 ^ first
	case n.Kind == impl.NdUnary:
		return a.worked("-", 0, first)
	case n.Name == "&", n.Name == "OR":
		return a.value(s, &n.Kids[1])
	}
	return a.worked(n.Name, first, a.value(s, &n.Kids[1]))
}

func (a *actor) called(s *scene, n *impl.Node) []int {
	of := s.stage
	if n.Of != "" {
		of = a.stages[n.Of]
	}
	kids := of.tree.Kids[slices.IndexFunc(of.tree.Kids, func(kid impl.Node) bool { return kid.Kind == impl.NdProc && kid.Name == n.Name })].Kids
	var given []int
	for i := range n.Kids {
		if kids[i].N == 1 {
			given = append(given, a.cell(s, &n.Kids[i]))
		} else {
			given = append(given, a.value(s, &n.Kids[i]))
		}
	}
	a.spend()
	return a.perform(of, map[string]known{}, kids, given)
}

// imageOfTrees compiles and links; it is false where a module, or all variables, are too large.
func imageOfTrees(t *testing.T, trees []impl.Node, faces []impl.Interface) (impl.Image, bool) {
	t.Helper()
	var list []impl.Object
	for i, tree := range trees {
		o, code, place := impl.Compile(tree, faces[:i])
		if code == impl.ErrSize {
			return impl.Image{}, false
		}
		if code != impl.OK {
			t.Fatalf("Compile: code %d at %d", code, place)
		}
		list = append(list, o)
	}
	x, module, code := impl.Link(list, trees[len(trees)-1].Name)
	if code != impl.OK && code != impl.ErrSize {
		t.Fatalf("Link: code %d in %s", code, module)
	}
	return x, code == impl.OK
}

// wantAlike asks for promise 7; where one of both does not end, what it tells is how the other one begins.
func wantAlike(t *testing.T, trees []impl.Node, faces []impl.Interface, input []int, evaluated impl.Result) {
	t.Helper()
	x, ok := imageOfTrees(t, trees, faces)
	if !ok {
		return
	}
	run, code := impl.Run(x, input, impl.MaxFuel)
	if code != impl.OK {
		t.Fatal("Run: code", code)
	}
	both := min(len(run.Out), len(evaluated.Out))
	ended := run.End != impl.EnFuel && evaluated.End != impl.EnFuel
	if ended && (run.End != evaluated.End || run.Trap != evaluated.Trap || len(run.Out) != len(evaluated.Out)) || !slices.Equal(run.Out[:both], evaluated.Out[:both]) {
		text, _ := impl.Print(trees[len(trees)-1])
		t.Errorf("evaluated %.600v, run %.600v:\n%.3000s", evaluated, run, text)
	}
	if run.End == impl.EnFuel && len(run.Out) > len(evaluated.Out) && evaluated.End != impl.EnFuel {
		t.Errorf("evaluated %.600v, but a run that does not end tells more: %.600v", evaluated, run)
	}
}

// wantEvaluated holds Evaluate against the tests' own reading, against what less and more fuel make of it, and against what is compiled, linked and run.
func wantEvaluated(t *testing.T, list []impl.Source, main string, input []int, fuel int) impl.Result {
	t.Helper()
	order, code := impl.Order(list, main)
	trees, faces, right := checkByOrder(list, order)
	if code != impl.OK || !right {
		t.Fatalf("sources that are not right: code %d, %v", code, order)
	}
	before, read := copySources(list), slices.Clone(input)
	r, code := impl.Evaluate(list, main, input, fuel)
	if want := evaluateByRules(trees, faces, input, fuel); code != impl.OK || !sameResult(r, want) {
		text, _ := impl.Print(trees[len(trees)-1])
		t.Errorf("Evaluate(%v, %d): code %d, %.600v, want %.600v:\n%.3000s", input, fuel, code, r, want, text)
	}
	wantFuel(t, func(fuel int) (impl.Result, int) { return impl.Evaluate(list, main, input, fuel) }, fuel, r)
	whole, _ := impl.Evaluate(list, main, input, impl.MaxFuel)
	wantAlike(t, trees, faces, input, whole)
	if !reflect.DeepEqual(copySources(list), before) || !slices.Equal(input, read) {
		t.Error("an argument is changed:", before, read)
	}
	return r
}

// withDrawn has a module M behind those of the list, of which the second one is drawn anew half of the times.
func withDrawn(source *rand.Rand, list []impl.Source, m impl.Node) []impl.Source {
	list = append(slices.Clone(list), impl.Source{Name: "M", Tree: m})
	if source.Intn(2) == 0 {
		b := checkedModule(source)
		b.Name, b.Kids = "B", b.Kids[1:]
		list[1].Tree = b
	}
	return list
}

func drawnInput(source *rand.Rand) []int {
	var input []int
	for range source.Intn(8) {
		input = append(input, source.Intn(200))
	}
	return input
}

// Promise 7: where both end, what is compiled, linked and run does what its sources do.
func TestRandomSourcesAreEvaluated(t *testing.T) {
	source := rand.New(rand.NewSource(27))
	ends := map[[2]int]int{}
	kinds := map[int]int{}
	tell := 0
	plain := sourcesOf(t, moduleA, "MODULE B; BEGIN WRITE(5) END B.")
	for range 2500 {
		tree := checkedModule(source)
		if source.Intn(3) == 0 {
			tree = hidden(source, tree)
		}
		list := withDrawn(source, plain, tree)
		if !impl.SourcesOK(list, "M") {
			continue
		}
		input := drawnInput(source)
		source.Shuffle(len(list), func(i, k int) { list[i], list[k] = list[k], list[i] })
		r := wantEvaluated(t, list, "M", input, source.Intn(1000))
		ends[[2]int{r.End, r.Trap}]++
		eachNode(&tree, func(n *impl.Node) { kinds[n.Kind]++ })
		if _, code := impl.OutText(r.Out); code != impl.OK {
			t.Error("what a module tells is none:", code, r.Out)
		}
		if len(r.Out) > 2 { // those of A and B
			tell++
		}
		if t.Failed() {
			return
		}
	}
	wantEnds(t, ends)
	for kind := impl.NdModule; kind <= impl.NdLen; kind++ {
		if kinds[kind] < 100 {
			t.Error("so many of each Kind are evaluated:", kinds)
			break
		}
	}
	if tell < 300 {
		t.Error("too few tell something of their own:", tell)
	}
}
