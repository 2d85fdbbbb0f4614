package tests

import (
	"math"
	"math/rand"
	"reflect"
	"strconv"
	"strings"
	"testing"

	"loop.example/g00168/impl"
)

// opRow is a row of the table of chapter 5; what is taken and left is a number, A or B.
type opRow struct{ listed, takes, leaves string }

var documentOps = map[int]opRow{
	impl.OpPush:      {"push A", "0", "1"},
	impl.OpLocal:     {"local A", "0", "1"},
	impl.OpGlobal:    {"global Mod.Name", "0", "1"},
	impl.OpLoad:      {"load", "1", "1"},
	impl.OpStore:     {"store", "2", "0"},
	impl.OpIndex:     {"index A", "2", "1"},
	impl.OpWork:      {"work SIGN", "2", "1"},
	impl.OpNeg:       {"neg", "1", "1"},
	impl.OpNot:       {"not", "1", "1"},
	impl.OpChr:       {"chr", "1", "1"},
	impl.OpJump:      {"jump A", "0", "0"},
	impl.OpJumpFalse: {"jumpfalse A", "1", "0"},
	impl.OpCall:      {"call Mod.Name A B", "A", "B"},
	impl.OpReturn:    {"return", "A", "0"},
	impl.OpWrite:     {"write A", "1", "0"},
	impl.OpRead:      {"read A", "1", "0"},
	impl.OpTrap:      {"trap A", "0", "0"},
}

const documentWorkSigns = "+ - * DIV MOD = # < <= > >="

func ins(op, a int) impl.Ins { return impl.Ins{Op: op, A: a} }

func callIns(takes, leaves int) impl.Ins {
	return impl.Ins{Op: impl.OpCall, A: takes, B: leaves, Mod: "M", Name: "P"}
}

func globalIns(name string) impl.Ins { return impl.Ins{Op: impl.OpGlobal, Mod: "M", Name: name} }

func bodyCode(list ...impl.Ins) impl.Code { return impl.Code{List: list} }

func end() impl.Ins { return ins(impl.OpReturn, 0) }

// boundsOfA are those that the chapter tells of the A of an instruction of c.
func boundsOfA(i impl.Ins, c impl.Code) (int, int) {
	switch i.Op {
	case impl.OpPush:
		return math.MinInt, math.MaxInt
	case impl.OpLocal:
		return 0, c.Cells - 1
	case impl.OpIndex:
		return 1, 100
	case impl.OpWork:
		return 0, 10
	case impl.OpJump, impl.OpJumpFalse:
		return 0, len(c.List) - 1
	case impl.OpCall:
		return 0, 20
	case impl.OpReturn:
		return c.Result, c.Result
	case impl.OpWrite, impl.OpRead:
		return 1, 3
	case impl.OpTrap:
		return 1, 5
	}
	return 0, 0
}

func rightIns(i impl.Ins, c impl.Code) bool {
	row, ok := documentOps[i.Op]
	least, most := boundsOfA(i, c)
	if !ok || i.A < least || i.A > most || i.Op == impl.OpRead && i.A == impl.TyBool {
		return false
	}
	if i.Op != impl.OpCall && i.B != 0 || i.B < 0 || i.B > 1 {
		return false
	}
	rule := ""
	if strings.Contains(row.listed, "Mod.Name") {
		rule = "own"
	}
	return textFits(i.Mod, rule) && textFits(i.Name, rule)
}

// verifyByRule is a reading of the tests' own: each round looks at all that has been reached.
func verifyByRule(c impl.Code) (int, int) {
	if len(c.List) < 1 || len(c.List) > 2000 || c.Params < 0 || c.Params > 20 || c.Cells < c.Params || c.Cells > 2000 || c.Result < 0 || c.Result > 1 {
		return impl.ErrBad, 0
	}
	if !textFits(c.Name, "module") || c.Name == "" && (c.Cells != 0 || c.Result != 0) {
		return impl.ErrBad, 0
	}
	for at, i := range c.List {
		if !rightIns(i, c) {
			return impl.ErrForm, at
		}
	}
	depths := map[int]int{0: 0}
	for before := 0; before < len(depths); {
		before = len(depths)
		for at, i := range c.List {
			depth, ok := depths[at]
			if !ok {
				continue
			}
			if code := lookByRule(c, at, i, depth, depths); code != impl.OK {
				return code, at
			}
		}
	}
	return impl.OK, 0
}

func lookByRule(c impl.Code, at int, i impl.Ins, depth int, depths map[int]int) int {
	many := map[string]int{"0": 0, "1": 1, "2": 2, "A": i.A, "B": i.B}
	row := documentOps[i.Op]
	if depth < many[row.takes] {
		return impl.ErrRange
	}
	depth += many[row.leaves] - many[row.takes]
	if depth > 60 {
		return impl.ErrDeep
	}
	if i.Op == impl.OpReturn && depth != 0 {
		return impl.ErrCount
	}
	var nexts []int
	if strings.HasPrefix(row.listed, "jump") {
		nexts = append(nexts, i.A)
	}
	if i.Op != impl.OpJump && i.Op != impl.OpReturn && i.Op != impl.OpTrap {
		nexts = append(nexts, at+1)
	}
	for _, next := range nexts {
		was, met := depths[next]
		if next == len(c.List) {
			return impl.ErrPlace
		}
		if met && was != depth {
			return impl.ErrCount
		}
		depths[next] = depth
	}
	return impl.OK
}

func listingByRule(c impl.Code) string {
	var b strings.Builder
	for at, i := range c.List {
		sign := ""
		if i.Op == impl.OpWork {
			sign = strings.Fields(documentWorkSigns)[i.A]
		}
		told := strings.NewReplacer("Mod", i.Mod, "Name", i.Name, "SIGN", sign, "A", strconv.Itoa(i.A), "B", strconv.Itoa(i.B))
		b.WriteString(strconv.Itoa(at) + " " + told.Replace(documentOps[i.Op].listed) + "\n")
	}
	return b.String()
}

func copyCode(c impl.Code) impl.Code {
	c.List = append([]impl.Ins(nil), c.List...)
	return c
}

// wantVerified holds VerifyCode and Listing against the tests' own reading, and answers the code.
func wantVerified(t *testing.T, c impl.Code) int {
	t.Helper()
	before := copyCode(c)
	wantCode, wantPlace := verifyByRule(c)
	code, place := impl.VerifyCode(c)
	if code != wantCode || place != wantPlace {
		t.Errorf("VerifyCode(%.900v): code %d at %d, want %d at %d", c, code, place, wantCode, wantPlace)
	}
	text, listed := impl.Listing(c)
	if wantCode != impl.OK && (listed != impl.ErrBad || text != "") {
		t.Errorf("Listing(%.900v): code %d, %q", c, listed, text)
	}
	if wantCode == impl.OK && (listed != impl.OK || text != listingByRule(c)) {
		t.Errorf("Listing(%.900v): code %d, %q, want %q", c, listed, text, listingByRule(c))
	}
	if !reflect.DeepEqual(copyCode(c), before) {
		t.Errorf("changed: %.900v", before)
	}
	return code
}

func wantCodeFault(t *testing.T, name string, c impl.Code, code, place int) {
	t.Helper()
	if gotCode, gotPlace := impl.VerifyCode(c); gotCode != code || gotPlace != place {
		t.Errorf("VerifyCode, %s: code %d at %d, want %d at %d", name, gotCode, gotPlace, code, place)
	}
	wantVerified(t, c)
}

func repeated(many int, list ...impl.Ins) []impl.Ins {
	var all []impl.Ins
	for range many {
		all = append(all, list...)
	}
	return all
}

// pushes is so many values pushed, and told.
func pushes(many int) impl.Code {
	list := append(repeated(many, ins(impl.OpPush, 7)), repeated(many, ins(impl.OpWrite, 1))...)
	return bodyCode(append(list, end())...)
}

func TestConstantsOfCodes(t *testing.T) {
	if impl.MaxCode != 2000 || impl.MaxStack != 60 {
		t.Error("bounds of chapter 5")
	}
	ops := []int{impl.OpPush, impl.OpLocal, impl.OpGlobal, impl.OpLoad, impl.OpStore, impl.OpIndex, impl.OpWork, impl.OpNeg, impl.OpNot, impl.OpChr,
		impl.OpJump, impl.OpJumpFalse, impl.OpCall, impl.OpReturn, impl.OpWrite, impl.OpRead, impl.OpTrap}
	for i, op := range ops {
		if op != i+1 {
			t.Errorf("Op %d is %d", i+1, op)
		}
	}
}

func TestListings(t *testing.T) {
	all := impl.Code{Name: "P", Params: 1, Cells: 12, Result: 1, List: []impl.Ins{
		ins(impl.OpLocal, 11), ins(impl.OpLoad, 0), ins(impl.OpPush, -12), ins(impl.OpWork, 0), ins(impl.OpChr, 0), ins(impl.OpWrite, 3),
		{Op: impl.OpGlobal, Mod: "Mod", Name: "Name"}, ins(impl.OpPush, 0), ins(impl.OpIndex, 100), ins(impl.OpRead, 1),
		ins(impl.OpLocal, 0), ins(impl.OpPush, 3), ins(impl.OpNeg, 0), ins(impl.OpNot, 0), ins(impl.OpStore, 0),
		ins(impl.OpPush, 1), ins(impl.OpJumpFalse, 20), ins(impl.OpPush, 1), {Op: impl.OpCall, A: 1, B: 1, Mod: "A", Name: "f"}, ins(impl.OpReturn, 1), ins(impl.OpJump, 22), ins(impl.OpLoad, 0), ins(impl.OpTrap, 5)}}
	want := "0 local 11\n1 load\n2 push -12\n3 work +\n4 chr\n5 write 3\n6 global Mod.Name\n7 push 0\n8 index 100\n9 read 1\n10 local 0\n11 push 3\n12 neg\n13 not\n14 store\n" +
		"15 push 1\n16 jumpfalse 20\n17 push 1\n18 call A.f 1 1\n19 return\n20 jump 22\n21 load\n22 trap 5\n"
	if text, code := impl.Listing(all); code != impl.OK || text != want {
		t.Errorf("Listing: code %d\n%s", code, text)
	}
	wantVerified(t, all)
	for number, sign := range strings.Fields(documentWorkSigns) {
		text, code := impl.Listing(bodyCode(ins(impl.OpPush, 1), ins(impl.OpPush, 2), ins(impl.OpWork, number), ins(impl.OpWrite, 2), end()))
		if want := "0 push 1\n1 push 2\n2 work " + sign + "\n3 write 2\n4 return\n"; code != impl.OK || text != want {
			t.Errorf("Listing of %s: code %d\n%s", sign, code, text)
		}
	}
	text, code := impl.Listing(bodyCode(ins(impl.OpPush, math.MinInt), ins(impl.OpPush, math.MaxInt), callIns(2, 0), end()))
	if want := "0 push -9223372036854775808\n1 push 9223372036854775807\n2 call M.P 2 0\n3 return\n"; code != impl.OK || text != want {
		t.Errorf("Listing of numbers of 64 bits: code %d\n%s", code, text)
	}
	if text, code := impl.Listing(bodyCode(ins(impl.OpPush, 1), end())); code != impl.ErrBad || text != "" {
		t.Errorf("Listing of what does not verify: code %d, %q", code, text)
	}
	if text, code := impl.Listing(impl.Code{}); code != impl.ErrBad || text != "" {
		t.Errorf("Listing of nothing: code %d, %q", code, text)
	}
}

func TestHeadsOfCodes(t *testing.T) {
	one := []impl.Ins{ins(impl.OpTrap, 1)}
	with := func(many int) []impl.Ins { return append(repeated(many-1, ins(impl.OpJump, many-1)), end()) }
	for _, c := range []struct {
		name string
		code impl.Code
		want int
	}{
		{"one instruction", bodyCode(end()), impl.OK},
		{"no instruction", impl.Code{}, impl.ErrBad},
		{"no instruction, an empty list", impl.Code{Name: "P", List: []impl.Ins{}}, impl.ErrBad},
		{"1999 instructions", bodyCode(with(1999)...), impl.OK},
		{"2000 instructions", bodyCode(with(2000)...), impl.OK},
		{"2001 instructions", bodyCode(with(2001)...), impl.ErrBad},
		{"4097 instructions", bodyCode(with(4097)...), impl.ErrBad},
		{"100000 instructions", bodyCode(with(100000)...), impl.ErrBad},
		{"no parameters", impl.Code{Name: "P", Cells: 1, List: one}, impl.OK},
		{"20 parameters", impl.Code{Name: "P", Params: 20, Cells: 20, List: one}, impl.OK},
		{"21 parameters", impl.Code{Name: "P", Params: 21, Cells: 21, List: one}, impl.ErrBad},
		{"-1 parameters", impl.Code{Name: "P", Params: -1, Cells: 0, List: one}, impl.ErrBad},
		{"fewest parameters", impl.Code{Name: "P", Params: math.MinInt, Cells: math.MinInt, List: one}, impl.ErrBad},
		{"most parameters", impl.Code{Name: "P", Params: math.MaxInt, Cells: math.MaxInt, List: one}, impl.ErrBad},
		{"fewer cells than parameters", impl.Code{Name: "P", Params: 5, Cells: 4, List: one}, impl.ErrBad},
		{"as many cells as parameters", impl.Code{Name: "P", Params: 5, Cells: 5, List: one}, impl.OK},
		{"2000 cells", impl.Code{Name: "P", Cells: 2000, List: one}, impl.OK},
		{"2000 cells and 20 parameters", impl.Code{Name: "P", Params: 20, Cells: 2000, List: one}, impl.OK},
		{"2001 cells", impl.Code{Name: "P", Cells: 2001, List: one}, impl.ErrBad},
		{"-1 cells", impl.Code{Name: "P", Cells: -1, List: one}, impl.ErrBad},
		{"a result", impl.Code{Name: "P", Result: 1, List: one}, impl.OK},
		{"two results", impl.Code{Name: "P", Result: 2, List: one}, impl.ErrBad},
		{"-1 results", impl.Code{Name: "P", Result: -1, List: one}, impl.ErrBad},
		{"no name and a cell", impl.Code{Cells: 1, List: one}, impl.ErrBad},
		{"no name and a parameter", impl.Code{Params: 1, Cells: 1, List: one}, impl.ErrBad},
		{"no name and a result", impl.Code{Result: 1, List: one}, impl.ErrBad},
		{"a name alone", impl.Code{Name: "P", List: one}, impl.OK},
		{"the longest name", impl.Code{Name: strings.Repeat("n", 40), List: one}, impl.OK},
		{"a longer name", impl.Code{Name: strings.Repeat("n", 41), List: one}, impl.ErrBad},
		{"a very long name", impl.Code{Name: strings.Repeat("n", 100000), List: one}, impl.ErrBad},
		{"a name with a digit ahead", impl.Code{Name: "1P", List: one}, impl.ErrBad},
		{"a name with a point", impl.Code{Name: "M.P", List: one}, impl.ErrBad},
		{"a name that is no text", impl.Code{Name: "\xff", List: one}, impl.ErrBad},
		{"nearly a word", impl.Code{Name: "End", List: one}, impl.OK},
	} {
		wantCodeFault(t, c.name, c.code, c.want, 0)
	}
	for _, word := range strings.Fields(documentKeys) {
		wantCodeFault(t, word, impl.Code{Name: word, List: one}, impl.ErrBad, 0)
	}
}

// formed is a code in which the instruction stands where nothing reaches it.
func formed(i impl.Ins) impl.Code {
	return impl.Code{Name: "P", Params: 2, Cells: 7, Result: 1, List: []impl.Ins{ins(impl.OpTrap, 1), i, ins(impl.OpLoad, 0), ins(impl.OpTrap, 2)}}
}

// Each field of an instruction of each Op takes each number and each text.
func TestFormsOfInstructions(t *testing.T) {
	numbers := []int{math.MinInt, math.MinInt + 1, -1 << 32, -257, -256, -2, -1, 0, 1, 2, 3, 4, 5, 6, 7, 8, 9, 10, 11, 12, 13, 14, 15, 16, 17, 18, 19, 20, 21, 22, 99, 100, 101, 255, 256, 257, 1999, 2000, 2001, 1 << 32, 1<<32 + 1, math.MaxInt}
	count := map[bool]int{}
	see := func(i impl.Ins) {
		c := formed(i)
		right := rightIns(i, c)
		count[right]++
		if code, place := impl.VerifyCode(c); right && (code != impl.OK || place != 0) || !right && (code != impl.ErrForm || place != 1) {
			t.Errorf("VerifyCode with %v: code %d at %d, which is right %v", i, code, place, right)
		}
		c.Result = 0
		wantVerified(t, c)
		c.Cells = 2
		wantVerified(t, c)
	}
	for _, op := range numbers {
		for _, a := range numbers {
			see(impl.Ins{Op: op, A: a})
			for _, b := range []int{math.MinInt, -1, 1, 2, 255, 256, 257, 1 << 32, math.MaxInt} {
				see(impl.Ins{Op: op, A: a, B: b})
				see(impl.Ins{Op: op, A: a, B: b, Mod: "M", Name: "x"})
			}
			see(impl.Ins{Op: op, A: a, Mod: "M", Name: "x"})
		}
		for _, text := range append(strings.Fields(documentKeys), textsOfNodes...) {
			for _, other := range []string{"", "x", "END", "9"} {
				see(impl.Ins{Op: op, Mod: text, Name: other})
				see(impl.Ins{Op: op, Mod: other, Name: text})
				see(impl.Ins{Op: op, A: 1, B: 1, Mod: text, Name: other})
			}
		}
	}
	if count[true] < 150 || count[false] < 3000 {
		t.Error("so many are right, and are not:", count)
	}
}

func TestBoundsOfInstructions(t *testing.T) {
	for _, c := range []struct {
		name string
		i    impl.Ins
		want bool
	}{
		{"the least number", ins(impl.OpPush, math.MinInt), true}, {"the greatest number", ins(impl.OpPush, math.MaxInt), true},
		{"the first cell", ins(impl.OpLocal, 0), true}, {"the last cell", ins(impl.OpLocal, 6), true}, {"no cell", ins(impl.OpLocal, 7), false}, {"cell -1", ins(impl.OpLocal, -1), false},
		{"an index of 0", ins(impl.OpIndex, 0), false}, {"an index of 1", ins(impl.OpIndex, 1), true}, {"an index of 100", ins(impl.OpIndex, 100), true}, {"an index of 101", ins(impl.OpIndex, 101), false},
		{"the first sign", ins(impl.OpWork, 0), true}, {"the last sign", ins(impl.OpWork, 10), true}, {"a sign too many", ins(impl.OpWork, 11), false}, {"sign -1", ins(impl.OpWork, -1), false},
		{"a jump to the first", ins(impl.OpJump, 0), true}, {"a jump to the last", ins(impl.OpJump, 3), true}, {"a jump behind it", ins(impl.OpJump, 4), false}, {"a jump to -1", ins(impl.OpJump, -1), false},
		{"perhaps to the first", ins(impl.OpJumpFalse, 0), true}, {"perhaps to the last", ins(impl.OpJumpFalse, 3), true}, {"perhaps behind it", ins(impl.OpJumpFalse, 4), false}, {"perhaps to -1", ins(impl.OpJumpFalse, -1), false},
		{"a call of 0", callIns(0, 0), true}, {"a call of 20", callIns(20, 1), true}, {"a call of 21", callIns(21, 1), false}, {"a call of -1", callIns(-1, 1), false}, {"a call with 2 results", callIns(0, 2), false}, {"a call with -1 results", callIns(0, -1), false},
		{"its result", ins(impl.OpReturn, 1), true}, {"no result", ins(impl.OpReturn, 0), false}, {"two results", ins(impl.OpReturn, 2), false},
		{"no type told", ins(impl.OpWrite, 0), false}, {"INTEGER told", ins(impl.OpWrite, 1), true}, {"BOOLEAN told", ins(impl.OpWrite, 2), true}, {"CHAR told", ins(impl.OpWrite, 3), true}, {"another type told", ins(impl.OpWrite, 4), false},
		{"no type read", ins(impl.OpRead, 0), false}, {"INTEGER read", ins(impl.OpRead, 1), true}, {"BOOLEAN read", ins(impl.OpRead, 2), false}, {"CHAR read", ins(impl.OpRead, 3), true}, {"another type read", ins(impl.OpRead, 4), false},
		{"trap 0", ins(impl.OpTrap, 0), false}, {"trap 1", ins(impl.OpTrap, 1), true}, {"trap 5", ins(impl.OpTrap, 5), true}, {"trap 6", ins(impl.OpTrap, 6), false},
		{"a load of 1", ins(impl.OpLoad, 1), false}, {"a store of 1", ins(impl.OpStore, 1), false}, {"a neg of 1", ins(impl.OpNeg, 1), false}, {"a not of 1", ins(impl.OpNot, 1), false}, {"a chr of 1", ins(impl.OpChr, 1), false},
		{"a variable of 1", impl.Ins{Op: impl.OpGlobal, A: 1, Mod: "M", Name: "x"}, false}, {"a variable with 1 result", impl.Ins{Op: impl.OpGlobal, B: 1, Mod: "M", Name: "x"}, false},
		{"a variable", globalIns("x"), true}, {"a variable without a module", impl.Ins{Op: impl.OpGlobal, Name: "x"}, false}, {"a variable without a name", impl.Ins{Op: impl.OpGlobal, Mod: "M"}, false},
		{"a call without a module", impl.Ins{Op: impl.OpCall, Name: "x"}, false}, {"a call without a name", impl.Ins{Op: impl.OpCall, Mod: "M"}, false},
		{"a word for a variable", globalIns("END"), false}, {"a word for a module", impl.Ins{Op: impl.OpGlobal, Mod: "IF", Name: "x"}, false}, {"a word for a procedure", impl.Ins{Op: impl.OpCall, Mod: "M", Name: "LEN"}, false},
		{"a number with a name", impl.Ins{Op: impl.OpPush, Name: "x"}, false}, {"a jump with a module", impl.Ins{Op: impl.OpJump, Mod: "M"}, false}, {"a number with a result", impl.Ins{Op: impl.OpPush, B: 1}, false},
		{"Op 0", ins(0, 0), false}, {"Op 18", ins(18, 0), false}, {"Op -1", ins(-1, 0), false}, {"Op 99", ins(99, 0), false},
	} {
		code, place := impl.VerifyCode(formed(c.i))
		if c.want && (code != impl.OK || place != 0) || !c.want && (code != impl.ErrForm || place != 1) {
			t.Errorf("VerifyCode, %s: code %d at %d", c.name, code, place)
		}
	}
}

func TestDepthsOfTheStack(t *testing.T) {
	push, write, load := ins(impl.OpPush, 5), ins(impl.OpWrite, 1), ins(impl.OpLoad, 0)
	for _, c := range []struct {
		name        string
		list        []impl.Ins
		code, place int
	}{
		{"60 values", pushes(60).List, impl.OK, 0},
		{"61 values", pushes(61).List, impl.ErrDeep, 60},
		{"100 values", pushes(100).List, impl.ErrDeep, 60},
		{"60 values, and a call that leaves one more", append(repeated(60, push), callIns(0, 1), end()), impl.ErrDeep, 60},
		{"60 values, and a call that takes one and leaves one", append(append(repeated(60, push), callIns(1, 1)), pushes(0).List...), impl.ErrCount, 61},
		{"60 values, and a load", append(append(repeated(60, push), load, callIns(20, 0), callIns(20, 0)), callIns(20, 0), end()), impl.OK, 0},
		{"nothing to write", []impl.Ins{write, end()}, impl.ErrRange, 0},
		{"nothing to load", []impl.Ins{load, end()}, impl.ErrRange, 0},
		{"one to store", []impl.Ins{push, ins(impl.OpStore, 0), end()}, impl.ErrRange, 1},
		{"one to index", []impl.Ins{push, ins(impl.OpIndex, 9), end()}, impl.ErrRange, 1},
		{"one to work", []impl.Ins{push, ins(impl.OpWork, 9), end()}, impl.ErrRange, 1},
		{"nothing to turn round", []impl.Ins{ins(impl.OpNeg, 0), end()}, impl.ErrRange, 0},
		{"nothing to deny", []impl.Ins{ins(impl.OpNot, 0), end()}, impl.ErrRange, 0},
		{"nothing to be a character", []impl.Ins{ins(impl.OpChr, 0), end()}, impl.ErrRange, 0},
		{"nothing to choose by", []impl.Ins{ins(impl.OpJumpFalse, 1), end()}, impl.ErrRange, 0},
		{"nothing to read to", []impl.Ins{ins(impl.OpRead, 1), end()}, impl.ErrRange, 0},
		{"fewer arguments", append(repeated(4, push), callIns(5, 0), end()), impl.ErrRange, 4},
		{"as many arguments", append(repeated(5, push), callIns(5, 0), end()), impl.OK, 0},
		{"more arguments", append(repeated(6, push), callIns(5, 0), end()), impl.ErrCount, 7},
		{"twenty arguments and a result", append(repeated(20, push), callIns(20, 1), write, end()), impl.OK, 0},
		{"a result that stays", append(repeated(20, push), callIns(20, 1), end()), impl.ErrCount, 21},
		{"a value at the end", []impl.Ins{push, end()}, impl.ErrCount, 1},
		{"a value at a trap", []impl.Ins{push, push, ins(impl.OpTrap, 1)}, impl.OK, 0},
		{"all that takes and leaves", []impl.Ins{push, push, ins(impl.OpIndex, 1), load, push, ins(impl.OpWork, 3), ins(impl.OpNeg, 0), ins(impl.OpNot, 0), ins(impl.OpChr, 0), ins(impl.OpJumpFalse, 10), globalIns("x"), push, ins(impl.OpStore, 0), globalIns("x"), ins(impl.OpRead, 3), end()}, impl.OK, 0},
		{"no end behind a value", []impl.Ins{push}, impl.ErrPlace, 0},
		{"no end behind a write", []impl.Ins{push, write}, impl.ErrPlace, 1},
		{"no end behind a call", []impl.Ins{callIns(0, 0)}, impl.ErrPlace, 0},
		{"no end behind a jump that may not be taken", []impl.Ins{push, ins(impl.OpJumpFalse, 0)}, impl.ErrPlace, 1},
		{"no end, and another depth ahead of it", []impl.Ins{push, push, ins(impl.OpJumpFalse, 0)}, impl.ErrCount, 2},
		{"no end needed behind a jump", []impl.Ins{ins(impl.OpJump, 0)}, impl.OK, 0},
		{"no end needed behind a trap", []impl.Ins{ins(impl.OpTrap, 3)}, impl.OK, 0},
		{"nothing behind a trap", []impl.Ins{ins(impl.OpTrap, 3), load}, impl.OK, 0},
		{"more taken than there is, ahead of what follows", []impl.Ins{write}, impl.ErrRange, 0},
		{"too many, ahead of what follows", repeated(61, push), impl.ErrDeep, 60},
		{"a value, and more taken", []impl.Ins{push, callIns(2, 1), ins(impl.OpTrap, 1)}, impl.ErrRange, 1},
	} {
		wantCodeFault(t, c.name, bodyCode(c.list...), c.code, c.place)
	}
}

func TestResultsOfCodes(t *testing.T) {
	push, back := ins(impl.OpPush, 5), ins(impl.OpReturn, 1)
	for _, c := range []struct {
		name        string
		list        []impl.Ins
		code, place int
	}{
		{"a result", []impl.Ins{push, back}, impl.OK, 0},
		{"none", []impl.Ins{back}, impl.ErrRange, 0},
		{"two", []impl.Ins{push, push, back}, impl.ErrCount, 2},
		{"no end behind it", []impl.Ins{push, back, push}, impl.OK, 0},
		{"an end without one", []impl.Ins{push, back, end()}, impl.ErrForm, 2},
		{"a trap without one", []impl.Ins{ins(impl.OpTrap, 5)}, impl.OK, 0},
		{"round and round", []impl.Ins{push, ins(impl.OpJumpFalse, 0), ins(impl.OpJump, 0)}, impl.OK, 0},
	} {
		wantCodeFault(t, c.name, impl.Code{Name: "P", Result: 1, List: c.list}, c.code, c.place)
	}
}

func TestJumps(t *testing.T) {
	push, write := ins(impl.OpPush, 5), ins(impl.OpWrite, 1)
	jump := func(a int) impl.Ins { return ins(impl.OpJump, a) }
	perhaps := func(a int) impl.Ins { return ins(impl.OpJumpFalse, a) }
	for _, c := range []struct {
		name        string
		list        []impl.Ins
		code, place int
	}{
		{"to itself", []impl.Ins{jump(0)}, impl.OK, 0},
		{"to itself, further on", []impl.Ins{push, write, jump(2), end()}, impl.OK, 0},
		{"to itself with a value", []impl.Ins{push, jump(1)}, impl.OK, 0},
		{"perhaps to itself", []impl.Ins{push, perhaps(1), end()}, impl.ErrCount, 1},
		{"to the first", []impl.Ins{push, write, jump(0)}, impl.OK, 0},
		{"to the first with a value", []impl.Ins{push, jump(0)}, impl.ErrCount, 1},
		{"perhaps to the first", []impl.Ins{push, perhaps(0), end()}, impl.OK, 0},
		{"perhaps to the first with a value", []impl.Ins{push, push, perhaps(0), write, end()}, impl.ErrCount, 2},
		{"behind the last one", []impl.Ins{jump(1)}, impl.ErrForm, 0},
		{"behind the last one, unreached", []impl.Ins{end(), jump(2)}, impl.ErrForm, 1},
		{"perhaps behind the last one", []impl.Ins{push, perhaps(3), end()}, impl.ErrForm, 1},
		{"to the last one", []impl.Ins{jump(2), push, end()}, impl.OK, 0},
		{"to the next one", []impl.Ins{push, perhaps(2), end()}, impl.OK, 0},
		{"to what is reached with another depth", []impl.Ins{push, perhaps(3), push, end()}, impl.ErrCount, 2},
		{"to what is reached with another depth by a jump alone", []impl.Ins{push, perhaps(4), push, jump(4), end()}, impl.ErrCount, 3},
		{"to what nothing else reaches", []impl.Ins{jump(2), push, end()}, impl.OK, 0},
		{"over what would take more than there is", []impl.Ins{jump(2), write, end()}, impl.OK, 0},
		{"over what has no end", []impl.Ins{jump(0), push}, impl.OK, 0},
		{"behind an end", []impl.Ins{end(), jump(0), write, push}, impl.OK, 0},
		{"into what stands behind an end", []impl.Ins{push, perhaps(3), end(), push, write, end()}, impl.OK, 0},
		{"into what stands behind an end and is wrong", []impl.Ins{push, perhaps(3), end(), write, end()}, impl.ErrRange, 3},
		{"both ways with the same depth", []impl.Ins{push, perhaps(4), push, jump(5), push, write, end()}, impl.OK, 0},
		{"both ways with a value left", []impl.Ins{push, perhaps(3), push, end()}, impl.ErrCount, 2},
		{"the jump's end ahead of the next one", []impl.Ins{push, push, push, perhaps(1), ins(impl.OpStore, 0), end()}, impl.ErrCount, 3},
		{"a loop that grows", []impl.Ins{push, jump(2), push, jump(1)}, impl.ErrCount, 3},
		{"a loop that shrinks", []impl.Ins{push, push, write, push, perhaps(2), end()}, impl.ErrCount, 4},
	} {
		wantCodeFault(t, c.name, bodyCode(c.list...), c.code, c.place)
	}
}

// Rounds go by the order of the instructions, so what is reached from behind waits for the next round.
func TestRoundsOfVerifying(t *testing.T) {
	push, write := ins(impl.OpPush, 5), ins(impl.OpWrite, 1)
	jump := func(a int) impl.Ins { return ins(impl.OpJump, a) }
	perhaps := func(a int) impl.Ins { return ins(impl.OpJumpFalse, a) }
	for _, c := range []struct {
		name        string
		list        []impl.Ins
		code, place int
	}{
		{"a fault ahead waits for the next round", []impl.Ins{jump(3), write, end(), push, perhaps(1), write, end()}, impl.ErrRange, 5},
		{"a fault ahead is found in the next round", []impl.Ins{jump(3), write, end(), push, perhaps(1), end()}, impl.ErrRange, 1},
		{"a fault of the second round comes ahead of one of the third", []impl.Ins{jump(5), write, end(), jump(1), write, push, perhaps(3), push, perhaps(4), end()}, impl.ErrRange, 4},
		{"the round that comes first tells the depth", []impl.Ins{jump(3), push, jump(6), push, perhaps(1), jump(6), end()}, impl.ErrCount, 2},
		{"the instruction that comes first is at fault", []impl.Ins{push, perhaps(4), write, end(), write, end()}, impl.ErrRange, 2},
		{"what is reached in a round is looked at in it", []impl.Ins{push, perhaps(3), end(), jump(5), end(), write, end()}, impl.ErrRange, 5},
	} {
		wantCodeFault(t, c.name, bodyCode(c.list...), c.code, c.place)
	}
	// Each instruction leads to the one ahead of it, so that each round reaches one alone.
	for _, many := range []int{3, 50, 2000} {
		list := []impl.Ins{jump(many - 1), end()}
		for at := 2; at < many; at++ {
			list = append(list, jump(at-1))
		}
		wantCodeFault(t, "backwards", bodyCode(list...), impl.OK, 0)
		list[1] = write
		wantCodeFault(t, "backwards to a fault", bodyCode(list...), impl.ErrRange, 1)
		list[1] = push
		wantCodeFault(t, "backwards to another depth", bodyCode(list...), impl.ErrCount, 1)
	}
}

// Of two faults in one code the document's order tells the one that counts, wherever the other one stands.
func TestTwoFaultsOfCodes(t *testing.T) {
	push, write, wrong := ins(impl.OpPush, 5), ins(impl.OpWrite, 1), ins(impl.OpTrap, 9)
	full := repeated(60, push)
	for _, c := range []struct {
		name        string
		code        impl.Code
		want, place int
	}{
		{"a head and a form", impl.Code{Params: 1, List: []impl.Ins{wrong}}, impl.ErrBad, 0},
		{"a head and a depth", impl.Code{Name: "END", List: []impl.Ins{write}}, impl.ErrBad, 0},
		{"too many instructions and a form", bodyCode(append(repeated(2000, end()), wrong)...), impl.ErrBad, 0},
		{"a form and a depth ahead of it", bodyCode(write, end(), wrong), impl.ErrForm, 2},
		{"a form and a depth behind it", bodyCode(ins(impl.OpJump, 2), wrong, write), impl.ErrForm, 1},
		{"a form and no end ahead of it", bodyCode(push, wrong), impl.ErrForm, 1},
		{"two forms", bodyCode(end(), wrong, end(), ins(99, 0)), impl.ErrForm, 1},
		{"a depth and one that is not reached", bodyCode(ins(impl.OpJump, 2), write, write, end()), impl.ErrRange, 2},
		{"more taken than there is, and too many", bodyCode(append([]impl.Ins{write}, repeated(61, push)...)...), impl.ErrRange, 0},
		{"too many, and more taken than there is", bodyCode(append(append(full, push), callIns(20, 0), callIns(20, 0), callIns(20, 0), callIns(20, 0))...), impl.ErrDeep, 60},
		{"too many, and none behind", bodyCode(append(full, push)...), impl.ErrDeep, 60},
		{"too many, and another depth at the jump's end", bodyCode(append(full, push, ins(impl.OpJump, 0))...), impl.ErrDeep, 60},
		{"a value at the end, and another depth", bodyCode(push, ins(impl.OpReturn, 0), ins(impl.OpJump, 0)), impl.ErrCount, 1},
		{"another depth and no end", bodyCode(push, ins(impl.OpJumpFalse, 4), push, ins(impl.OpJump, 0), push), impl.ErrCount, 3},
		{"no end and another depth", bodyCode(ins(impl.OpJump, 3), push, ins(impl.OpJump, 1), push, push), impl.ErrPlace, 4},
		{"another depth of the jump, and none behind it", bodyCode(push, ins(impl.OpJump, 2), push, ins(impl.OpJumpFalse, 0)), impl.ErrCount, 3},
		{"more taken, and a value at the end", bodyCode(ins(impl.OpJump, 3), push, end(), write, ins(impl.OpJump, 1)), impl.ErrRange, 3},
		{"a value at the end, and more taken", bodyCode(push, ins(impl.OpJumpFalse, 4), push, end(), write), impl.ErrCount, 3},
	} {
		wantCodeFault(t, c.name, c.code, c.want, c.place)
	}
}

func randomIns(source *rand.Rand, many int) impl.Ins {
	op := 1 + source.Intn(17)
	switch source.Intn(8) {
	case 0:
		op = impl.OpPush
	case 1:
		op = impl.OpJumpFalse
	}
	i := impl.Ins{Op: op}
	switch op {
	case impl.OpPush:
		i.A = source.Int() - source.Int()
	case impl.OpLocal:
		i.A = source.Intn(3)
	case impl.OpIndex:
		i.A = 1 + source.Intn(100)
	case impl.OpWork:
		i.A = source.Intn(11)
	case impl.OpJump, impl.OpJumpFalse:
		i.A = source.Intn(many)
	case impl.OpCall:
		i.A, i.B, i.Mod, i.Name = source.Intn(3), source.Intn(2), "M", "P"
	case impl.OpGlobal:
		i.Mod, i.Name = "A", "x"
	case impl.OpReturn:
		i.A = 1
	case impl.OpWrite, impl.OpTrap:
		i.A = 1 + source.Intn(3)
	case impl.OpRead:
		i.A = impl.TyInt
	}
	return i
}

// randomCode mostly is as the table says; now and then its stack is nearly full at the beginning.
func randomCode(source *rand.Rand) impl.Code {
	c := impl.Code{Name: "P", Params: source.Intn(3), Cells: 3, Result: 1}
	if source.Intn(5) == 0 {
		c.List = repeated(57, ins(impl.OpPush, 1))
	}
	ahead, many := len(c.List), 1+source.Intn(14)
	for range many {
		i := randomIns(source, many)
		if i.Op == impl.OpJump || i.Op == impl.OpJumpFalse {
			i.A += ahead
		}
		c.List = append(c.List, i)
	}
	if source.Intn(3) > 0 {
		c.List = append(c.List, ins(impl.OpTrap, 5))
	}
	if source.Intn(20) == 0 {
		c.List[source.Intn(len(c.List))].A++
	}
	return c
}

func TestRandomCodes(t *testing.T) {
	source := rand.New(rand.NewSource(14))
	codes := map[int]int{}
	for range 60000 {
		codes[wantVerified(t, randomCode(source))]++
		if t.Failed() {
			return
		}
	}
	for _, code := range []int{impl.OK, impl.ErrForm, impl.ErrRange, impl.ErrDeep, impl.ErrCount, impl.ErrPlace} {
		if codes[code] < 100 {
			t.Error("so many have each code:", codes)
			break
		}
	}
}
