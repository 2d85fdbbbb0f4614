package tests

import (
	"math/rand"
	"reflect"
	"slices"
	"strconv"
	"strings"
	"testing"

	"loop.example/g00168/impl"
)

// linking is a reading of linking of the tests' own.
type linking struct {
	objects map[string]impl.Object
	order   []impl.Object
}

// behindNeeds goes along needs; what is met first is at fault. A print is looked at behind all that its object needs.
func (k *linking) behindNeeds(path []string, module string) (string, int) {
	o, ok := k.objects[module]
	switch {
	case !ok:
		return module, impl.ErrNone
	case slices.Contains(path, module):
		return module, impl.ErrCycle
	case slices.ContainsFunc(k.order, func(o impl.Object) bool { return o.Module == module }):
		return "", impl.OK
	}
	for _, need := range o.Needs {
		if at, code := k.behindNeeds(append(slices.Clone(path), module), need.Module); code != impl.OK {
			return at, code
		}
		if k.objects[need.Module].Print != need.Print {
			return module, impl.ErrPrint
		}
	}
	k.order = append(k.order, o)
	return "", impl.OK
}

// cellOf is -1 where there is no such variable.
func (k *linking) cellOf(i impl.Ins) int {
	cell := 0
	for _, o := range k.order {
		for _, global := range o.Globals {
			if o.Module == i.Mod && global.Name == i.Name {
				return cell
			}
			cell++
			if global.Length > 1 {
				cell += global.Length - 1
			}
		}
	}
	if i.Op == 0 {
		return cell
	}
	return -1
}

// procOf is -1 where there is no such procedure.
func (k *linking) procOf(i impl.Ins) (int, impl.Code) {
	number := 0
	for _, o := range k.order {
		for _, proc := range o.Procs {
			if o.Module == i.Mod && proc.Name == i.Name {
				return number, proc
			}
			number++
		}
	}
	return -1, impl.Code{}
}

func (k *linking) eachIns(see func(module string, i *impl.Ins)) {
	for _, o := range k.order {
		for _, proc := range o.Procs {
			for at := range proc.List {
				see(o.Module, &proc.List[at])
			}
		}
	}
}

func linkByRules(list []impl.Object, main string) (impl.Image, string, int) {
	if len(list) > 4096 || len(main) > 65536 {
		return impl.Image{}, "", impl.ErrLong
	}
	if len(list) > 20 {
		return impl.Image{}, "", impl.ErrMany
	}
	k := &linking{objects: map[string]impl.Object{}}
	for _, o := range list {
		if _, twice := k.objects[o.Module]; twice || !rightObject(o) {
			return impl.Image{}, "", impl.ErrBad
		}
		k.objects[o.Module] = copyObject(o)
	}
	if module, code := k.behindNeeds(nil, main); code != impl.OK {
		return impl.Image{}, module, code
	}
	var unknown, miscounted []string
	k.eachIns(func(module string, i *impl.Ins) {
		number, proc := k.procOf(*i)
		switch {
		case i.Op == impl.OpGlobal && k.cellOf(*i) < 0, i.Op == impl.OpCall && number < 0:
			unknown = append(unknown, module)
		case i.Op == impl.OpCall && (i.A != proc.Params || i.B != proc.Result):
			miscounted = append(miscounted, module)
		}
	})
	cells := k.cellOf(impl.Ins{})
	switch {
	case len(unknown) > 0:
		return impl.Image{}, unknown[0], impl.ErrName
	case len(miscounted) > 0:
		return impl.Image{}, miscounted[0], impl.ErrCount
	case cells > 3000:
		return impl.Image{}, main, impl.ErrSize
	}
	k.eachIns(func(module string, i *impl.Ins) {
		if i.Op == impl.OpGlobal {
			*i = ins(impl.OpPush, k.cellOf(*i))
		} else if i.Op == impl.OpCall {
			number, _ := k.procOf(*i)
			*i = impl.Ins{Op: impl.OpCall, A: number, B: i.B}
		}
	})
	x := impl.Image{Globals: cells}
	for _, o := range k.order {
		for _, proc := range o.Procs {
			x.Procs = append(x.Procs, proc)
			x.Names = append(x.Names, o.Module+"."+proc.Name)
		}
		x.Start = append(x.Start, len(x.Procs)-1)
	}
	return x, "", impl.OK
}

// copyImage has lists of its own, and nil for those that are empty.
func copyImage(x impl.Image) impl.Image {
	x.Procs = append([]impl.Code(nil), x.Procs...)
	x.Names = append([]string(nil), x.Names...)
	x.Start = append([]int(nil), x.Start...)
	for i := range x.Procs {
		x.Procs[i] = copyCode(x.Procs[i])
	}
	return x
}

func sameImage(a, b impl.Image) bool { return reflect.DeepEqual(copyImage(a), copyImage(b)) }

func copyObjects(list []impl.Object) []impl.Object {
	list = append([]impl.Object(nil), list...)
	for i := range list {
		list[i] = copyObject(list[i])
	}
	return list
}

// wantLink holds Link against the tests' own reading.
func wantLink(t *testing.T, list []impl.Object, main string) (impl.Image, string, int) {
	t.Helper()
	before := copyObjects(list)
	x, module, code := impl.Link(list, main)
	want, wantModule, wantCode := linkByRules(list, main)
	if code != wantCode || module != wantModule || !sameImage(x, want) {
		t.Errorf("Link(%.900v, %.50q): code %d of %.50q, want %d of %.50q\n%.900v\n%.900v", list, main, code, module, wantCode, wantModule, x, want)
	}
	if code != impl.OK && !reflect.DeepEqual(x, impl.Image{}) {
		t.Errorf("Link: code %d and %.300v", code, x)
	}
	if code == impl.OK && !wantImage(t, x) {
		t.Errorf("what is linked is not right: %.900v", x)
	}
	if !reflect.DeepEqual(copyObjects(list), before) {
		t.Errorf("objects are changed: %.600v", before)
	}
	return x, module, code
}

// graph has an object for each text: a module and its needs, with ! behind those of another print.
func graph(texts ...string) []impl.Object {
	var list []impl.Object
	for _, text := range texts {
		words := strings.Fields(text)
		o := impl.Object{Module: words[0], Print: printOfName(words[0]), Procs: []impl.Code{bodyCode(end())}}
		for _, word := range words[1:] {
			module, other := strings.CutSuffix(word, "!")
			need := impl.Need{Module: module, Print: printOfName(module)}
			if other {
				need.Print ^= 1 << 20
			}
			o.Needs = append(o.Needs, need)
		}
		list = append(list, o)
	}
	return list
}

func printOfName(module string) int { return 1000*len(module) + int(module[0]) }

// orders has each order of a list, or some of them if they are many.
func orders(list []impl.Object) [][]impl.Object {
	if len(list) < 2 || len(list) > 5 {
		turned := slices.Clone(list)
		slices.Reverse(turned)
		return [][]impl.Object{list, turned}
	}
	var all [][]impl.Object
	for i := range list {
		rest := slices.Delete(slices.Clone(list), i, i+1)
		for _, order := range orders(rest) {
			all = append(all, append([]impl.Object{list[i]}, order...))
		}
	}
	return all
}

// wantOrder asks for the modules in the order in which they are linked, however the list goes.
func wantOrder(t *testing.T, list []impl.Object, want string) {
	t.Helper()
	for _, list := range orders(list) {
		x, module, code := wantLink(t, list, "M")
		if code != impl.OK {
			t.Errorf("Link: code %d of %q", code, module)
			return
		}
		var order []string
		for _, at := range x.Start {
			order = append(order, strings.TrimSuffix(x.Names[at], "."))
		}
		if strings.Join(order, " ") != want {
			t.Errorf("linked %v, want %s", order, want)
			return
		}
	}
}

// wantUnlinked asks for the module at fault, however the list goes.
func wantUnlinked(t *testing.T, list []impl.Object, module string, code int) {
	t.Helper()
	for _, list := range orders(list) {
		if _, gotModule, gotCode := wantLink(t, list, "M"); gotCode != code || gotModule != module {
			t.Errorf("Link: code %d of %q, want %d of %q", gotCode, gotModule, code, module)
			return
		}
	}
}

func TestConstantsOfTheMachine(t *testing.T) {
	got := []int{impl.MaxCells, impl.MaxCalls, impl.MaxFuel, impl.MaxInput, impl.MaxOutput, impl.EnHalt, impl.EnTrap, impl.EnFuel, impl.EnRoom, impl.TrZero, impl.TrIndex, impl.TrChar, impl.TrInput, impl.TrResult}
	if want := []int{3000, 50, 20000, 100, 1000, 1, 2, 3, 4, 1, 2, 3, 4, 5}; !slices.Equal(got, want) {
		t.Error("constants:", got)
	}
}

// Promise 6: each object stands behind those that it needs, in the order of its Needs.
func TestOrderOfNeeds(t *testing.T) {
	wantOrder(t, graph("M"), "M")
	wantOrder(t, graph("M A", "A"), "A M")
	wantOrder(t, graph("M A B", "A", "B"), "A B M")
	wantOrder(t, graph("M B A", "A", "B"), "B A M")
	wantOrder(t, graph("M A", "A B", "B C", "C"), "C B A M")
	wantOrder(t, graph("M A B", "A C", "B C", "C"), "C A B M")
	wantOrder(t, graph("M B A", "A C", "B C", "C"), "C B A M")
	wantOrder(t, graph("M A B", "A B", "B"), "B A M")
	wantOrder(t, graph("M A B", "A", "B A"), "A B M")
	wantOrder(t, graph("M A B C", "C B A", "B A", "A"), "A B C M")
	wantOrder(t, graph("M C B A", "C", "B", "A"), "C B A M")
	wantOrder(t, graph("M D A", "A B C", "B", "C", "D C B"), "C B D A M")
	wantOrder(t, graph("M A A", "A"), "A M")
	wantOrder(t, graph("M A B A", "A B", "B"), "B A M")
}

// What main does not need is not linked, whatever it needs itself.
func TestObjectsThatMainDoesNotNeed(t *testing.T) {
	wantOrder(t, graph("M", "A"), "M")
	wantOrder(t, graph("M A", "A", "B A", "C M"), "A M")
	wantOrder(t, graph("M A", "A", "B B"), "A M")
	wantOrder(t, graph("M A", "A", "B C", "C B"), "A M")
	wantOrder(t, graph("M A", "A", "B X A!", "C M!"), "A M")
	list := graph("M", "A")
	list[1].Globals = []impl.Global{{Name: "x", Length: 100}}
	list[1].Procs[0].List = []impl.Ins{{Op: impl.OpGlobal, Mod: "Z", Name: "x"}, {Op: impl.OpCall, Mod: "M", Name: "nothing", A: 1}, end()}
	wantOrder(t, list, "M")
	if x, _, _ := impl.Link(list, "M"); x.Globals != 0 || len(x.Procs) != 1 {
		t.Error("something of another object is linked:", x)
	}
	list[1].Procs[0].List = nil
	if _, _, code := wantLink(t, list, "M"); code != impl.ErrBad {
		t.Error("an object that is not right and not needed: code", code)
	}
	for _, main := range []string{"M", "A", "B", "C"} {
		x, _, code := wantLink(t, graph("M A", "A B", "B C", "C"), main)
		if code != impl.OK || len(x.Start) != 4-strings.Index("MABC", main) || x.Names[len(x.Names)-1] != main+"." {
			t.Error("main", main, code, x.Names)
		}
	}
}

func TestNeedsThatAreNotThere(t *testing.T) {
	wantUnlinked(t, nil, "M", impl.ErrNone)
	wantUnlinked(t, graph("A", "B"), "M", impl.ErrNone)
	wantUnlinked(t, graph("M A"), "A", impl.ErrNone)
	wantUnlinked(t, graph("M A B", "A"), "B", impl.ErrNone)
	wantUnlinked(t, graph("M A B", "B"), "A", impl.ErrNone)
	wantUnlinked(t, graph("M A", "A B", "B X"), "X", impl.ErrNone)
	wantUnlinked(t, graph("M A B", "A X", "B Y"), "X", impl.ErrNone)
	wantUnlinked(t, graph("M B A", "A X", "B Y"), "Y", impl.ErrNone)
	for _, main := range []string{"", "m", "M.", "no name", "END", "M\x00", strings.Repeat("M", 41), strings.Repeat("M", 65536)} {
		if _, module, code := wantLink(t, graph("M A", "A"), main); code != impl.ErrNone || module != main {
			t.Errorf("main %.50q: code %d of %.50q", main, code, module)
		}
	}
}

func TestNeedsThatGoRound(t *testing.T) {
	wantUnlinked(t, graph("M M"), "M", impl.ErrCycle)
	wantUnlinked(t, graph("M A", "A A"), "A", impl.ErrCycle)
	wantUnlinked(t, graph("M A", "A M"), "M", impl.ErrCycle)
	wantUnlinked(t, graph("M A", "A B", "B A"), "A", impl.ErrCycle)
	wantUnlinked(t, graph("M A", "A B", "B C", "C A"), "A", impl.ErrCycle)
	wantUnlinked(t, graph("M A", "A B", "B C", "C B"), "B", impl.ErrCycle)
	wantUnlinked(t, graph("M B A", "A B", "B A"), "B", impl.ErrCycle)
	wantUnlinked(t, graph("M A B", "A", "B B"), "B", impl.ErrCycle)
	wantUnlinked(t, graph("M A B", "A B", "B C", "C D", "D C"), "C", impl.ErrCycle)
}

func TestNeedsOfAnotherPrint(t *testing.T) {
	wantUnlinked(t, graph("M A!", "A"), "M", impl.ErrPrint)
	wantUnlinked(t, graph("M A B!", "A", "B"), "M", impl.ErrPrint)
	wantUnlinked(t, graph("M A", "A B!", "B"), "A", impl.ErrPrint)
	wantUnlinked(t, graph("M A B", "A", "B A!"), "B", impl.ErrPrint)
	wantUnlinked(t, graph("M A B!", "A B", "B"), "M", impl.ErrPrint)
	wantUnlinked(t, graph("M A A!", "A"), "M", impl.ErrPrint)
	// It is told behind what the one that it is the print of needs.
	wantUnlinked(t, graph("M A!", "A B!", "B"), "A", impl.ErrPrint)
	wantUnlinked(t, graph("M A!", "A B!", "B C!", "C"), "B", impl.ErrPrint)
	wantUnlinked(t, graph("M A!", "A B", "B X"), "X", impl.ErrNone)
	wantUnlinked(t, graph("M A!", "A A"), "A", impl.ErrCycle)
	wantUnlinked(t, graph("M M!"), "M", impl.ErrCycle)
	wantUnlinked(t, graph("M A", "A B", "B A!"), "A", impl.ErrCycle)
	wantUnlinked(t, graph("M A!"), "A", impl.ErrNone)
	for _, print := range []int{0, 1, 4294967294, 4294967295} {
		list := graph("M A", "A")
		list[0].Needs[0].Print, list[1].Print = print, print
		wantOrder(t, list, "A M")
		list[1].Print ^= 1
		wantUnlinked(t, list, "M", impl.ErrPrint)
	}
	list := graph("M A", "A")
	list[0].Print = 77 // what none needs
	wantOrder(t, list, "A M")
}

// Of two faults of needs what is met first counts.
func TestTwoFaultsOfNeeds(t *testing.T) {
	wantUnlinked(t, graph("M X A", "A A"), "X", impl.ErrNone)
	wantUnlinked(t, graph("M A X", "A A"), "A", impl.ErrCycle)
	wantUnlinked(t, graph("M X A!", "A"), "X", impl.ErrNone)
	wantUnlinked(t, graph("M A! X", "A"), "M", impl.ErrPrint)
	wantUnlinked(t, graph("M A B", "A A", "B B"), "A", impl.ErrCycle)
	wantUnlinked(t, graph("M B A", "A A", "B B"), "B", impl.ErrCycle)
	wantUnlinked(t, graph("M A! B", "A", "B B"), "M", impl.ErrPrint)
	wantUnlinked(t, graph("M B A!", "A", "B B"), "B", impl.ErrCycle)
	wantUnlinked(t, graph("M A B", "A C!", "B X", "C"), "A", impl.ErrPrint)
	wantUnlinked(t, graph("M B A", "A C!", "B X", "C"), "X", impl.ErrNone)
}

// calling has a body that has this instruction, and what else it needs.
func calling(module string, i impl.Ins) impl.Object {
	o := graph(module)[0]
	var list []impl.Ins
	if i.Op == impl.OpCall {
		list = repeated(i.A, ins(impl.OpPush, 1))
	}
	list = append(list, i)
	if i.Op == impl.OpGlobal || i.B == 1 {
		list = append(list, ins(impl.OpWrite, 1))
	}
	o.Procs[0].List = append(list, end())
	return o
}

// offering has variables x and v, and procedures of 0 to 2 parameters, with and without a result.
func offering(module string) impl.Object {
	o := graph(module)[0]
	o.Globals = []impl.Global{{Name: "x"}, {Name: "v", Length: 3}}
	var procs []impl.Code
	for params := range 3 {
		procs = append(procs, impl.Code{Name: "p" + strconv.Itoa(params), Params: params, Cells: params, List: []impl.Ins{end()}})
		procs = append(procs, impl.Code{Name: "f" + strconv.Itoa(params), Params: params, Cells: params + 1, Result: 1, List: []impl.Ins{ins(impl.OpTrap, 5)}})
	}
	o.Procs = append(procs, o.Procs...)
	return o
}

// withNeeds gives the first of a list a need of each of the others.
func withNeeds(list ...impl.Object) []impl.Object {
	for _, o := range list[1:] {
		list[0].Needs = append(list[0].Needs, impl.Need{Module: o.Module, Print: o.Print})
	}
	return list
}

func namedIns(op int, module, name string, counts ...int) impl.Ins {
	i := impl.Ins{Op: op, Mod: module, Name: name}
	if len(counts) == 2 {
		i.A, i.B = counts[0], counts[1]
	}
	return i
}

func TestCodesThatNameWhatThereIsNot(t *testing.T) {
	global, call := impl.OpGlobal, impl.OpCall
	for _, c := range []struct {
		i    impl.Ins
		code int
	}{
		{namedIns(global, "A", "x"), impl.OK}, {namedIns(global, "A", "v"), impl.OK}, {namedIns(global, "A", "y"), impl.ErrName}, {namedIns(global, "A", "X"), impl.ErrName},
		{namedIns(global, "A", "p0"), impl.ErrName}, {namedIns(global, "M", "x"), impl.ErrName}, {namedIns(global, "B", "x"), impl.ErrName}, {namedIns(global, "Z", "x"), impl.ErrName},
		{namedIns(call, "A", "p0", 0, 0), impl.OK}, {namedIns(call, "A", "p1", 1, 0), impl.OK}, {namedIns(call, "A", "f2", 2, 1), impl.OK}, {namedIns(call, "A", "f0", 0, 1), impl.OK},
		{namedIns(call, "A", "p3", 0, 0), impl.ErrName}, {namedIns(call, "M", "p0", 0, 0), impl.ErrName}, {namedIns(call, "B", "p0", 0, 0), impl.ErrName}, {namedIns(call, "Z", "p0", 0, 0), impl.ErrName}, {namedIns(call, "A", "x", 0, 0), impl.ErrName},
		{namedIns(call, "A", "p0", 1, 0), impl.ErrCount}, {namedIns(call, "A", "p0", 0, 1), impl.ErrCount}, {namedIns(call, "A", "p0", 20, 0), impl.ErrCount},
		{namedIns(call, "A", "p1", 0, 0), impl.ErrCount}, {namedIns(call, "A", "p1", 2, 0), impl.ErrCount}, {namedIns(call, "A", "p1", 1, 1), impl.ErrCount},
		{namedIns(call, "A", "f2", 2, 0), impl.ErrCount}, {namedIns(call, "A", "f2", 1, 1), impl.ErrCount}, {namedIns(call, "A", "f2", 3, 1), impl.ErrCount}, {namedIns(call, "A", "f0", 0, 0), impl.ErrCount},
	} {
		module := "M"
		if c.code == impl.OK {
			module = ""
		}
		list := append(withNeeds(calling("M", c.i), offering("A")), offering("B"), offering("C"))
		if _, got, code := wantLink(t, list, "M"); code != c.code || got != module {
			t.Errorf("%v: code %d of %q, want %d", c.i, code, got, c.code)
		}
		// An instruction that is never reached names something, too.
		list[0].Procs[0].List = append([]impl.Ins{end()}, list[0].Procs[0].List...)
		if _, got, code := wantLink(t, list, "M"); code != c.code || got != module {
			t.Errorf("%v, not reached: code %d of %q, want %d", c.i, code, got, c.code)
		}
	}
}

// The first of those linked is at fault; a name of any of them comes ahead of a count.
func TestTwoFaultsOfLinkedCodes(t *testing.T) {
	noName, noCount := namedIns(impl.OpGlobal, "A", "y"), namedIns(impl.OpCall, "D", "p0", 1, 0)
	fine := namedIns(impl.OpCall, "D", "p0", 0, 0)
	wide := graph("W")[0]
	for at := range 31 {
		wide.Globals = append(wide.Globals, impl.Global{Name: "g" + strconv.Itoa(at), Length: 100})
	}
	for _, c := range []struct {
		first, second, third impl.Ins // of A, B and M
		module               string
		code                 int
	}{
		{fine, fine, fine, "M", impl.ErrSize},
		{noName, fine, fine, "A", impl.ErrName}, {fine, noName, fine, "B", impl.ErrName}, {fine, fine, noName, "M", impl.ErrName},
		{noCount, fine, fine, "A", impl.ErrCount}, {fine, noCount, fine, "B", impl.ErrCount}, {fine, fine, noCount, "M", impl.ErrCount},
		{noName, noName, noName, "A", impl.ErrName}, {fine, noName, noName, "B", impl.ErrName},
		{noCount, noCount, noCount, "A", impl.ErrCount}, {fine, noCount, noCount, "B", impl.ErrCount},
		{noCount, noName, fine, "B", impl.ErrName}, {noName, noCount, fine, "A", impl.ErrName}, {noCount, fine, noName, "M", impl.ErrName}, {noCount, noCount, noName, "M", impl.ErrName},
	} {
		d, a, b := offering("D"), calling("A", c.first), calling("B", c.second)
		a, b = withNeeds(a, d)[0], withNeeds(b, d)[0]
		wantUnlinked(t, append(withNeeds(calling("M", c.third), a, b, wide), d), c.module, c.code)
		// A fault of needs comes ahead of them all.
		list := append(withNeeds(calling("M", c.third), a, b, wide), d)
		list[0].Needs = append(list[0].Needs, impl.Need{Module: "X"})
		wantUnlinked(t, list, "X", impl.ErrNone)
		list[0].Needs[3] = impl.Need{Module: "W", Print: 1}
		wantUnlinked(t, list, "M", impl.ErrPrint)
		list[0].Needs[3] = impl.Need{Module: "M"}
		wantUnlinked(t, list, "M", impl.ErrCycle)
	}
	// Both in one code.
	both := calling("M", noName)
	both.Procs[0].List = append([]impl.Ins{ins(impl.OpPush, 1), noCount}, both.Procs[0].List...)
	wantUnlinked(t, withNeeds(both, offering("D"), graph("A")[0]), "M", impl.ErrName)
}

// Codes may name what another one than a need has, if only that is linked, too.
func TestCodesThatNameWhatIsLinkedElsewhere(t *testing.T) {
	a := calling("A", namedIns(impl.OpCall, "C", "p0", 0, 0))
	b := calling("B", namedIns(impl.OpGlobal, "M", "x"))
	m := offering("M")
	m.Needs = []impl.Need{{Module: "A", Print: a.Print}, {Module: "B", Print: b.Print}, {Module: "C", Print: printOfName("C")}}
	x, _, code := wantLink(t, []impl.Object{m, a, b, offering("C")}, "M")
	if code != impl.OK || x.Names[0] != "A." || x.Procs[0].List[0] != (impl.Ins{Op: impl.OpCall, A: 2}) || x.Procs[1].List[0] != ins(impl.OpPush, 4) {
		t.Error("code", code, x)
	}
	m.Needs = m.Needs[:2]
	if _, module, code := wantLink(t, []impl.Object{m, a, b, offering("C")}, "M"); code != impl.ErrName || module != "A" {
		t.Error("code", code, module)
	}
}

func TestWhatLinkMakes(t *testing.T) {
	a, m := offering("A"), offering("M")
	m.Needs = []impl.Need{{Module: "A", Print: a.Print}}
	m.Globals = append(m.Globals, impl.Global{Name: "w", Length: 1}, impl.Global{Name: "z"})
	m.Procs[6].List = []impl.Ins{namedIns(impl.OpGlobal, "M", "z"), namedIns(impl.OpGlobal, "M", "x"), namedIns(impl.OpCall, "A", "f2", 2, 1), ins(impl.OpWrite, 3),
		namedIns(impl.OpGlobal, "A", "v"), namedIns(impl.OpCall, "M", "p1", 1, 0), namedIns(impl.OpGlobal, "M", "w"), namedIns(impl.OpGlobal, "M", "v"), namedIns(impl.OpGlobal, "A", "x"), namedIns(impl.OpCall, "M", "p1", 1, 0), ins(impl.OpStore, 0), namedIns(impl.OpCall, "M", "p0", 0, 0), end()}
	x, module, code := wantLink(t, []impl.Object{m, a}, "M")
	want := []impl.Ins{ins(impl.OpPush, 9), ins(impl.OpPush, 4), {Op: impl.OpCall, A: 5, B: 1}, ins(impl.OpWrite, 3),
		ins(impl.OpPush, 1), {Op: impl.OpCall, A: 9}, ins(impl.OpPush, 8), ins(impl.OpPush, 5), ins(impl.OpPush, 0), {Op: impl.OpCall, A: 9}, ins(impl.OpStore, 0), {Op: impl.OpCall, A: 7}, end()}
	if code != impl.OK || module != "" || x.Globals != 10 || !slices.Equal(x.Start, []int{6, 13}) || !slices.Equal(x.Procs[13].List, want) {
		t.Error("linked:", code, x.Globals, x.Start, x.Procs[13].List)
	}
	if got := strings.Join(x.Names, " "); got != "A.p0 A.f0 A.p1 A.f1 A.p2 A.f2 A. M.p0 M.f0 M.p1 M.f1 M.p2 M.f2 M." {
		t.Error("names:", got)
	}
	for at, proc := range append(slices.Clone(a.Procs), m.Procs...) {
		got := x.Procs[at]
		if got.Name != proc.Name || got.Params != proc.Params || got.Cells != proc.Cells || got.Result != proc.Result || len(got.List) != len(proc.List) {
			t.Error("another procedure than is due:", at, got)
		}
	}
	long := strings.Repeat("n", 40)
	o := graph(long)[0]
	o.Procs = append([]impl.Code{{Name: long, List: []impl.Ins{end()}}}, o.Procs...)
	if x, _, code := wantLink(t, []impl.Object{o}, long); code != impl.OK || x.Names[0] != long+"."+long || x.Names[1] != long+"." {
		t.Error("long names:", code, x.Names)
	}
}

// manyObjects are linked one behind the other, each with so many procedures and its body.
func manyObjects(many, procs int) []impl.Object {
	list := graph("M")
	for at := range many - 1 {
		list = append(list, graph("A" + strconv.Itoa(at))[0])
	}
	list = withNeeds(list...)
	for i := range list {
		for at := range procs {
			list[i].Procs = slices.Insert(list[i].Procs, at, impl.Code{Name: "p" + strconv.Itoa(at), List: []impl.Ins{end()}})
		}
	}
	return list
}

func TestBoundsOfLinking(t *testing.T) {
	for _, c := range []struct{ many, code int }{{1, impl.OK}, {19, impl.OK}, {20, impl.OK}, {21, impl.ErrMany}, {22, impl.ErrMany}} {
		list := manyObjects(c.many, 0)
		if c.many > 21 { // so many needs would not be right
			list[0].Needs = nil
		}
		x, module, code := wantLink(t, list, "M")
		if code != c.code || module != "" || code == impl.OK && len(x.Start) != c.many {
			t.Errorf("%v: code %d of %q", c, code, module)
		}
	}
	x, _, code := wantLink(t, manyObjects(20, 59), "M")
	if code != impl.OK || len(x.Procs) != 1200 || len(x.Names) != 1200 || len(x.Start) != 20 || x.Start[19] != 1199 {
		t.Error("1200 procedures:", code, len(x.Procs), x.Start)
	}
	bad := impl.Object{}
	for _, c := range []struct {
		name   string
		list   []impl.Object
		main   string
		module string
		code   int
	}{
		{"4096 objects", make([]impl.Object, 4096), "M", "", impl.ErrMany},
		{"4097 objects", make([]impl.Object, 4097), "M", "", impl.ErrLong},
		{"main of 65536 bytes", graph("M"), strings.Repeat("M", 65536), strings.Repeat("M", 65536), impl.ErrNone},
		{"main of 65537 bytes", graph("M"), strings.Repeat("M", 65537), "", impl.ErrLong},
		{"main of 65537 bytes and 21 objects", make([]impl.Object, 21), strings.Repeat("M", 65537), "", impl.ErrLong},
		{"main of 65537 bytes and an object that is not right", []impl.Object{bad}, strings.Repeat("M", 65537), "", impl.ErrLong},
		{"21 objects that are not right", make([]impl.Object, 21), "M", "", impl.ErrMany},
		{"20 objects that are not right", make([]impl.Object, 20), "M", "", impl.ErrBad},
		{"one that is not right, and none of main", []impl.Object{bad}, "M", "", impl.ErrBad},
		{"one that is not right behind one with a fault", append(graph("M X"), bad), "M", "", impl.ErrBad},
		{"main twice", append(graph("M"), graph("M")...), "M", "", impl.ErrBad},
		{"two of one module, of another print", append(graph("M A", "A"), impl.Object{Module: "A", Print: 9, Procs: []impl.Code{bodyCode(end())}}), "M", "", impl.ErrBad},
		{"two of one module that are not needed", graph("M", "A", "A"), "M", "", impl.ErrBad},
	} {
		if _, module, code := wantLink(t, c.list, c.main); code != c.code || module != c.module {
			t.Errorf("%s: code %d of %.50q, want %d", c.name, code, module, c.code)
		}
	}
}

func TestManyGlobals(t *testing.T) {
	arrays := func(module string, lengths ...int) impl.Object {
		o := graph(module)[0]
		for at, length := range lengths {
			o.Globals = append(o.Globals, impl.Global{Name: "g" + strconv.Itoa(at), Length: length})
		}
		return o
	}
	hundred := slices.Repeat([]int{100}, 15)
	for _, c := range []struct {
		name string
		list []impl.Object
		want int
	}{
		{"none", withNeeds(arrays("M"), arrays("A")), 0},
		{"a plain one", withNeeds(arrays("M", 0), arrays("A")), 1},
		{"an array of one", withNeeds(arrays("M", 1), arrays("A")), 1},
		{"both", withNeeds(arrays("M", 0, 1), arrays("A", 2, 0)), 5},
		{"2999", withNeeds(arrays("M", append(hundred[1:], 99)...), arrays("A", hundred...)), 2999},
		{"3000", withNeeds(arrays("M", hundred...), arrays("A", hundred...)), 3000},
		{"3000 of one", withNeeds(arrays("M", append(hundred, hundred...)...)), 3000},
		{"3000 in another way", withNeeds(arrays("M", append(hundred[1:], 99)...), arrays("A", hundred...), arrays("B", 0)), 3000},
		{"3001", withNeeds(arrays("M", append(hundred, 0)...), arrays("A", hundred...)), 3001},
		{"3001 in another way", withNeeds(arrays("M", hundred...), arrays("A", hundred...), arrays("B", 1)), 3001},
		{"many more", withNeeds(arrays("M", append(hundred, hundred...)...), arrays("A", append(hundred, hundred...)...)), 6000},
	} {
		x, module, code := wantLink(t, c.list, "M")
		if c.want <= 3000 && (code != impl.OK || x.Globals != c.want) || c.want > 3000 && (code != impl.ErrSize || module != "M") {
			t.Errorf("%s: code %d of %q, %d cells", c.name, code, module, x.Globals)
		}
	}
	// Those of what is not needed do not count.
	list := append(withNeeds(arrays("M", hundred...), arrays("A", hundred...)), arrays("B", hundred...))
	if x, _, code := wantLink(t, list, "M"); code != impl.OK || x.Globals != 3000 {
		t.Error("code", code, x.Globals)
	}
}

// randomGraph has objects whose needs mostly go one way, and codes that mostly name what there is.
func randomGraph(source *rand.Rand) []impl.Object {
	names := strings.Fields("M A B C D E F G")[:1+source.Intn(8)]
	var list []impl.Object
	for at, module := range names {
		o := offering(module)
		for range source.Intn(4) {
			need := at + 1 + source.Intn(4)
			if source.Intn(25) == 0 {
				need = source.Intn(len(names))
			}
			if need < len(names) {
				o.Needs = append(o.Needs, impl.Need{Module: names[need], Print: printOfName(names[need])})
			} else if source.Intn(25) == 0 {
				o.Needs = append(o.Needs, impl.Need{Module: "X"})
			}
		}
		if len(o.Needs) > 0 && source.Intn(12) == 0 {
			o.Needs[0].Print++
		}
		var body []impl.Ins
		for range source.Intn(4) {
			of := module
			if len(o.Needs) > 0 && source.Intn(2) == 0 {
				of = o.Needs[source.Intn(len(o.Needs))].Module
			}
			params := source.Intn(3)
			i := namedIns(impl.OpCall, of, "f"+strconv.Itoa(params), params, 1)
			if source.Intn(2) == 0 {
				i = namedIns(impl.OpGlobal, of, []string{"x", "v"}[source.Intn(2)])
			}
			switch source.Intn(60) {
			case 0:
				i.Name = "y"
			case 1:
				i.Name = "f0"
			}
			one := calling("M", i).Procs[0].List
			body = append(body, one[:len(one)-1]...)
		}
		o.Procs[6].List = append(body, end())
		list = append(list, o)
	}
	source.Shuffle(len(list), func(i, k int) { list[i], list[k] = list[k], list[i] })
	return list
}

// Promise 6: what is linked stands behind what it needs, once.
func TestRandomGraphs(t *testing.T) {
	source := rand.New(rand.NewSource(20))
	codes := map[int]int{}
	sizes := map[int]int{}
	for range 6000 {
		list := randomGraph(source)
		x, _, code := wantLink(t, list, "M")
		codes[code]++
		if t.Failed() {
			return
		}
		if code != impl.OK {
			continue
		}
		sizes[len(x.Start)]++
		place := map[string]int{}
		for at, start := range x.Start {
			place[x.Names[start]] = at + 1
		}
		for _, o := range list {
			for _, need := range o.Needs {
				if own := place[o.Module+"."]; own > 0 && (place[need.Module+"."] == 0 || place[need.Module+"."] > own) {
					t.Errorf("%s stands ahead of its need %s: %v", o.Module, need.Module, x.Names)
				}
			}
		}
		if len(place) != len(x.Start) || place["M."] != len(x.Start) {
			t.Error("not each once, or main not last:", x.Names)
		}
	}
	for _, code := range []int{impl.OK, impl.ErrNone, impl.ErrCycle, impl.ErrPrint, impl.ErrName, impl.ErrCount} {
		if codes[code] < 50 {
			t.Error("so many have each code:", codes)
			break
		}
	}
	if sizes[1] < 50 || sizes[4] < 50 || sizes[6] < 50 {
		t.Error("so many are linked:", sizes)
	}
}

// An object with something in it changed is linked, or told, as the chapter says.
func TestLinkedObjectsWithOneChange(t *testing.T) {
	source := rand.New(rand.NewSource(21))
	codes := map[int]int{}
	for range 3000 {
		list := copyObjects(randomGraph(source))
		o := &list[source.Intn(len(list))]
		proc := &o.Procs[source.Intn(len(o.Procs))]
		n := source.Intn(4)
		switch source.Intn(10) {
		case 0:
			o.Module = []string{"M", "A", "Q", "END", ""}[source.Intn(5)]
		case 1:
			o.Print = n
		case 2:
			o.Globals[source.Intn(2)].Name = []string{"x", "v", "y", "p0", ""}[source.Intn(5)]
		case 3:
			o.Globals[0].Length = 99 + n
		case 4:
			proc.Name = []string{"p0", "f2", "q", "x", ""}[source.Intn(5)]
		case 5:
			proc.Params, proc.Cells = n, n+1
		case 6:
			proc.Result = n
		case 7:
			o.Procs = slices.Delete(o.Procs, source.Intn(len(o.Procs)), len(o.Procs))
		case 8:
			proc.List[source.Intn(len(proc.List))].A = n
		case 9:
			o.Needs = nil
		}
		_, _, code := wantLink(t, list, "M")
		codes[code]++
		if t.Failed() {
			return
		}
	}
	if codes[impl.OK] < 100 || codes[impl.ErrBad] < 100 || codes[impl.ErrCount] < 20 {
		t.Error("so many have each code:", codes)
	}
}
