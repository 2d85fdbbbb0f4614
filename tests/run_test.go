package tests

import (
	"math"
	"math/big"
	"math/rand"
	"reflect"
	"slices"
	"strconv"
	"strings"
	"testing"

	"loop.example/g00168/impl"
)

// runner is a machine of the tests' own: each procedure has a stack, and memory is a map.
type runner struct {
	x      impl.Image
	memory map[int]int
	size   int // of memory
	onWay  int
	input  []int
	fuel   int
	r      impl.Result
}

// over ends a run.
type over struct{ end, trap int }

func (m *runner) must(holds bool, end, trap int) {
	if !holds {
		panic(over{end, trap})
	}
}

func (m *runner) address(at int) int {
	m.must(at >= 0 && at < m.size, impl.EnTrap, impl.TrIndex)
	return at
}

func runByRules(x impl.Image, input []int, fuel int) (r impl.Result) {
	m := &runner{x: x, memory: map[int]int{}, size: x.Globals, input: input, fuel: fuel}
	defer func() {
		if o, ok := recover().(over); ok {
			r = m.r
			r.End, r.Trap = o.end, o.trap
		}
	}()
	for _, at := range x.Start {
		m.procedure(x.Procs[at], nil)
	}
	panic(over{impl.EnHalt, 0})
}

func (m *runner) procedure(c impl.Code, arguments []int) []int {
	first := m.size
	m.must(m.onWay < 50 && first+c.Cells <= 3000, impl.EnRoom, 0)
	m.size += c.Cells
	m.onWay++
	for at := range c.Cells {
		m.memory[first+at] = 0
	}
	for at, value := range arguments {
		m.memory[first+at] = value
	}
	result := m.instructions(c, first)
	m.onWay--
	m.size = first
	return result
}

func (m *runner) instructions(c impl.Code, first int) []int {
	var stack []int
	for at := 0; ; {
		m.must(m.r.Used < m.fuel, impl.EnFuel, 0)
		m.r.Used++
		i := c.List[at]
		at++
		row := documentOps[i.Op]
		takes := map[string]int{"0": 0, "1": 1, "2": 2}[row.takes]
		if i.Op == impl.OpCall {
			takes = m.x.Procs[i.A].Params
		} else if row.takes == "A" {
			takes = i.A
		}
		taken := slices.Clone(stack[len(stack)-takes:])
		stack = stack[:len(stack)-takes]
		switch i.Op {
		case impl.OpJump:
			at = i.A
		case impl.OpJumpFalse:
			if taken[0] == 0 {
				at = i.A
			}
		case impl.OpReturn:
			return taken
		case impl.OpLocal:
			stack = append(stack, first+i.A)
		default:
			stack = append(stack, m.done(i, taken)...)
		}
	}
}

// done is what an instruction leaves of what it takes.
func (m *runner) done(i impl.Ins, taken []int) []int {
	switch i.Op {
	case impl.OpPush:
		return []int{i.A}
	case impl.OpLoad:
		return []int{m.memory[m.address(taken[0])]}
	case impl.OpStore:
		m.memory[m.address(taken[0])] = taken[1]
	case impl.OpIndex:
		m.must(taken[1] >= 0 && taken[1] < i.A, impl.EnTrap, impl.TrIndex)
		return []int{taken[0] + taken[1]}
	case impl.OpWork:
		return []int{m.worked(strings.Fields(documentWorkSigns)[i.A], taken[0], taken[1])}
	case impl.OpNeg:
		return []int{0 - taken[0]}
	case impl.OpNot:
		return []int{map[bool]int{true: 1}[taken[0] == 0]}
	case impl.OpChr:
		m.must(isCharacter(taken[0]), impl.EnTrap, impl.TrChar)
		return taken
	case impl.OpCall:
		return m.procedure(m.x.Procs[i.A], taken)
	case impl.OpWrite:
		m.must(len(m.r.Out) < 1000, impl.EnRoom, 0)
		m.r.Out = append(m.r.Out, impl.Out{Type: i.A, Value: taken[0]})
	case impl.OpRead:
		at := m.address(taken[0])
		m.must(len(m.input) > 0 && (i.A == impl.TyInt || isCharacter(m.input[0])), impl.EnTrap, impl.TrInput)
		m.memory[at], m.input = m.input[0], m.input[1:]
	case impl.OpTrap:
		m.must(false, impl.EnTrap, i.A)
	}
	return nil
}

func isCharacter(n int) bool { return n >= 0 && n <= 0x10FFFF && (n < 0xD800 || n > 0xDFFF) }

// worked works with whole numbers of any size, and wraps at last.
func (m *runner) worked(sign string, left, right int) int {
	a, b := big.NewInt(int64(left)), big.NewInt(int64(right))
	n := new(big.Int)
	order := a.Cmp(b)
	holds, compares := map[string]bool{"=": order == 0, "#": order != 0, "<": order < 0, "<=": order <= 0, ">": order > 0, ">=": order >= 0}[sign]
	switch {
	case compares && holds:
		return 1
	case compares:
		return 0
	case sign == "+":
		n.Add(a, b)
	case sign == "-":
		n.Sub(a, b)
	case sign == "*":
		n.Mul(a, b)
	default:
		m.must(right != 0, impl.EnTrap, impl.TrZero)
		rest := new(big.Int)
		n.DivMod(a, b, rest)
		if right < 0 && rest.Sign() > 0 { // that is rounded so that the rest is not below 0
			n.Sub(n, big.NewInt(1))
			rest.Add(rest, b)
		}
		if sign == "MOD" {
			n = rest
		}
	}
	low := n.And(n, new(big.Int).SetUint64(math.MaxUint64))
	return int(low.Uint64())
}

func sameResult(a, b impl.Result) bool {
	return a.End == b.End && a.Trap == b.Trap && a.Used == b.Used && slices.Equal(a.Out, b.Out)
}

// wantRun holds Run against the tests' own reading, and what less and more fuel make of it.
func wantRun(t *testing.T, x impl.Image, input []int, fuel int) impl.Result {
	t.Helper()
	before, read := copyImage(x), slices.Clone(input)
	r, code := impl.Run(x, input, fuel)
	if want := runByRules(x, input, fuel); code != impl.OK || !sameResult(r, want) {
		t.Errorf("Run(%.900v, %v, %d): code %d, %.600v, want %.600v", x, input, fuel, code, r, want)
	}
	wantFuel(t, func(fuel int) (impl.Result, int) { return impl.Run(x, input, fuel) }, fuel, r)
	if !reflect.DeepEqual(copyImage(x), before) || !slices.Equal(input, read) {
		t.Errorf("an argument is changed: %.900v, %v", before, read)
	}
	return r
}

// wantFuel asks for promise 6: more fuel changes nothing of a run that ended; less ends it where it is used up.
func wantFuel(t *testing.T, run func(fuel int) (impl.Result, int), fuel int, r impl.Result) {
	t.Helper()
	if (r.Trap != 0) != (r.End == impl.EnTrap) || r.End < impl.EnHalt || r.End > impl.EnRoom || r.Used > fuel || (r.End == impl.EnFuel && r.Used != fuel) {
		t.Errorf("a run with %d: %.600v", fuel, r)
	}
	for _, other := range []int{0, 1, r.Used / 2, r.Used - 1, r.Used, r.Used + 1, fuel + 1, impl.MaxFuel} {
		if other < 0 || other > impl.MaxFuel || r.End == impl.EnFuel && other > fuel {
			continue
		}
		again, code := run(other)
		if code != impl.OK {
			t.Errorf("a run with fuel %d: code %d", other, code)
		}
		if r.End != impl.EnFuel && other >= r.Used {
			if !sameResult(again, r) {
				t.Errorf("fuel %d: %.600v, with %d %.600v", fuel, r, other, again)
			}
			continue
		}
		if again.End != impl.EnFuel || again.Used != other || again.Trap != 0 || len(again.Out) > len(r.Out) || !slices.Equal(again.Out, r.Out[:len(again.Out)]) {
			t.Errorf("fuel %d: %.600v, with %d %.600v", fuel, r, other, again)
		}
	}
}

// wantEnd runs a body, of instructions as they are listed, behind procedures; told is what it tells.
func wantEnd(t *testing.T, globals int, procs []impl.Code, body string, input []int, end, trap int, told string) impl.Result {
	t.Helper()
	x := imageOf(globals, append(slices.Clone(procs), bodyCode(assembled(t, body)...))...)
	if !wantImage(t, x) {
		t.Fatalf("not right: %s", body)
	}
	r := wantRun(t, x, input, impl.MaxFuel)
	var words []string
	for _, out := range r.Out {
		words = append(words, strconv.Itoa(out.Type)+":"+strconv.Itoa(out.Value))
	}
	if got := strings.Join(words, " "); r.End != end || r.Trap != trap || got != told {
		t.Errorf("%s: end %d, trap %d, told %q, want %d, %d, %q", body, r.End, r.Trap, got, end, trap, told)
	}
	return r
}

// wantTold halts.
func wantTold(t *testing.T, body, told string) {
	t.Helper()
	wantEnd(t, 4, nil, body+"|return", nil, impl.EnHalt, 0, told)
}

func wantTrap(t *testing.T, body string, trap int) {
	t.Helper()
	wantEnd(t, 4, nil, body+"|return", nil, impl.EnTrap, trap, "")
}

func TestEachInstruction(t *testing.T) {
	wantTold(t, "push 5|write 1", "1:5")
	wantTold(t, "push -9223372036854775808|write 1|push 9223372036854775807|write 1", "1:-9223372036854775808 1:9223372036854775807")
	wantTold(t, "push 3|push 8|store|push 3|load|write 1|push 2|load|write 1", "1:8 1:0")
	wantTold(t, "push 1|push 2|index 3|push 8|store|push 3|load|write 1", "1:8")
	wantTold(t, "push 7|write 1|push 7|write 2|push 7|write 3|push -1|write 3|push 55296|write 3", "1:7 2:7 3:7 3:-1 3:55296")
	wantTold(t, "push 5|neg|write 1|push -5|neg|write 1|push 0|neg|write 1|push -9223372036854775808|neg|write 1", "1:-5 1:5 1:0 1:-9223372036854775808")
	wantTold(t, "push 0|not|write 2|push 1|not|write 2|push 7|not|write 2|push -1|not|write 2", "2:1 2:0 2:0 2:0")
	wantTold(t, "push 0|chr|write 3|push 55295|chr|write 3|push 57344|chr|write 3|push 1114111|chr|write 3", "3:0 3:55295 3:57344 3:1114111")
	wantTold(t, "jump 3|push 1|write 1|push 2|write 1", "1:2")
	wantTold(t, "push 0|jumpfalse 4|push 1|write 1|push 2|write 1", "1:2")
	wantTold(t, "push 1|jumpfalse 4|push 1|write 1|push 2|write 1", "1:1 1:2")
	wantTold(t, "push -1|jumpfalse 4|push 1|write 1|push 2|write 1", "1:1 1:2")
	wantTold(t, "push 3|write 1|return|push 4|write 1", "1:3")
	wantEnd(t, 2, nil, "push 0|read 1|push 1|read 3|push 0|load|write 1|push 1|load|write 3|return", []int{-5, 97, 3}, impl.EnHalt, 0, "1:-5 3:97")
	for trap := 1; trap <= 5; trap++ {
		wantTrap(t, "trap "+strconv.Itoa(trap), trap)
	}
	procs := []impl.Code{
		procOf(t, 2, 3, 1, "local 0|load|local 1|load|work -|local 2|load|work +|return 1"),
		procOf(t, 2, 2, 0, "local 0|load|local 1|load|store|return"),
		procOf(t, 0, 0, 0, "push 6|write 1|return"),
	}
	wantEnd(t, 1, procs, "push 9|push 4|call 0 1|write 1|push 0|push 8|call 1 0|push 0|load|write 1|call 2 0|return", nil, impl.EnHalt, 0, "1:5 1:8 1:6")
	// What lies below the arguments stays.
	wantEnd(t, 1, procs, "push 100|push 10|push 9|push 4|call 0 1|work -|work +|write 1|return", nil, impl.EnHalt, 0, "1:105")
}

func TestSignsOfTheMachine(t *testing.T) {
	numbers := []int{math.MinInt, math.MinInt + 1, -1 << 32, -7, -3, -2, -1, 0, 1, 2, 3, 7, 1 << 31, 3037000500, math.MaxInt - 1, math.MaxInt}
	for _, left := range numbers {
		for _, right := range numbers {
			for _, sign := range strings.Fields(documentWorkSigns) {
				body := "push " + strconv.Itoa(left) + "|push " + strconv.Itoa(right) + "|work " + sign + "|write 1|return"
				r := wantRun(t, imageOf(0, bodyCode(assembled(t, body)...)), nil, 9)
				if zero := right == 0 && (sign == "DIV" || sign == "MOD"); zero != (r.End == impl.EnTrap) || zero != (r.Trap == impl.TrZero) {
					t.Errorf("%d %s %d: %v", left, sign, right, r)
				}
			}
		}
	}
	for _, c := range []struct {
		body string
		want int
	}{
		{"push -7|push 2|work DIV", -4}, {"push -7|push 2|work MOD", 1}, {"push 7|push -2|work DIV", -4}, {"push 7|push -2|work MOD", -1}, {"push -7|push -2|work DIV", 3}, {"push -7|push -2|work MOD", -1},
		{"push 7|push 2|work DIV", 3}, {"push 7|push 2|work MOD", 1}, {"push -8|push 2|work DIV", -4}, {"push -8|push 2|work MOD", 0}, {"push 0|push -3|work DIV", 0}, {"push 0|push -3|work MOD", 0},
		{"push -1|push 3|work DIV", -1}, {"push -1|push 3|work MOD", 2}, {"push 1|push -3|work DIV", -1}, {"push 1|push -3|work MOD", -2},
		{"push -9223372036854775808|push -1|work DIV", math.MinInt}, {"push -9223372036854775808|push -1|work MOD", 0}, {"push -9223372036854775808|push 1|work DIV", math.MinInt},
		{"push 9223372036854775807|push 1|work +", math.MinInt}, {"push -9223372036854775808|push 1|work -", math.MaxInt}, {"push 9223372036854775807|push 2|work *", -2},
		{"push -9223372036854775808|push -1|work *", math.MinInt}, {"push 4294967296|push 4294967296|work *", 0}, {"push 5|push 3|work -", 2}, {"push 3|push 5|work <", 1}, {"push 5|push 3|work <", 0},
		{"push -1|push 1|work <", 1}, {"push -9223372036854775808|push 9223372036854775807|work >", 0}, {"push 4|push 4|work <=", 1}, {"push 4|push 4|work >=", 1}, {"push 4|push 4|work #", 0}, {"push 4|push 4|work =", 1},
	} {
		wantTold(t, c.body+"|write 1", "1:"+strconv.Itoa(c.want))
	}
}

func TestIndexesOfTheMachine(t *testing.T) {
	for _, length := range []int{1, 2, 50, 100} {
		for _, index := range []int{math.MinInt, -1, 0, length - 1, length, length + 1, 100, math.MaxInt} {
			body := "push 10|push " + strconv.Itoa(index) + "|index " + strconv.Itoa(length) + "|write 1"
			if index >= 0 && index < length {
				wantTold(t, body, "1:"+strconv.Itoa(10+index))
			} else {
				wantTrap(t, body, impl.TrIndex)
			}
		}
	}
	// It is a sum; that there is such an address is asked where it is used.
	wantTold(t, "push -5|push 1|index 2|write 1|push 9223372036854775807|push 1|index 2|write 1", "1:-4 1:-9223372036854775808")
	wantTold(t, "push -1|push 1|index 2|load|write 1", "1:0")
}

func TestAddresses(t *testing.T) {
	uses := []string{"load|write 1", "push 1|store", "read 1", "read 3"}
	for _, globals := range []int{0, 1, 7, 3000} {
		for _, at := range []int{math.MinInt, -1, 0, 1, globals - 1, globals, globals + 1, 2999, 3000, math.MaxInt} {
			for _, use := range uses {
				body := "push " + strconv.Itoa(at) + "|" + use + "|return"
				r := wantRun(t, imageOf(globals, bodyCode(assembled(t, body)...)), []int{65}, 99)
				if there := at >= 0 && at < globals; there != (r.End == impl.EnHalt) || !there && r.Trap != impl.TrIndex {
					t.Errorf("%s, %d Globals: %v", body, globals, r)
				}
			}
		}
	}
	// The cells of a procedure are there while it is on the way: 4, then 2 and 3 more.
	for at := -1; at < 11; at++ {
		for _, use := range uses {
			try := "push " + strconv.Itoa(at) + "|" + use + "|return"
			for _, c := range []struct {
				inner, outer string
				cells        int
			}{{try, "call 0 0|return", 9}, {"return", "call 0 0|" + try, 6}} {
				x := imageOf(4, procOf(t, 0, 3, 0, c.inner), procOf(t, 0, 2, 0, c.outer), bodyCode(assembled(t, "call 1 0|return")...))
				r := wantRun(t, x, []int{65}, 99)
				if there := at >= 0 && at < c.cells; there != (r.End == impl.EnHalt) || !there && r.Trap != impl.TrIndex {
					t.Errorf("address %d, %s: %v", at, use, r)
				}
			}
		}
	}
}

// All cells are 0 at first, also where others were ahead; arguments are taken into the first ones.
func TestCellsOfProcedures(t *testing.T) {
	procs := []impl.Code{
		procOf(t, 0, 3, 0, "local 0|push 7|store|local 1|push 8|store|local 2|push 9|store|return"),
		procOf(t, 2, 4, 0, "local 0|load|write 1|local 1|load|write 1|local 2|load|write 1|local 3|load|write 1|return"),
		procOf(t, 1, 1, 1, "local 0|load|push 1|work +|return 1"),
		procOf(t, 1, 2, 0, "local 1|local 0|load|store|call 0 0|local 1|load|write 1|local 0|load|call 2 1|write 1|local 0|load|write 1|return"),
	}
	wantEnd(t, 0, procs, "call 0 0|push 1|push 2|call 1 0|return", nil, impl.EnHalt, 0, "1:1 1:2 1:0 1:0")
	wantEnd(t, 2, procs, "push 0|load|write 1|push 1|load|write 1|push 4|call 3 0|push 0|load|write 1|return", nil, impl.EnHalt, 0, "1:0 1:0 1:4 1:5 1:4 1:0")
	twenty := procOf(t, 20, 20, 0, "local 19|load|write 1|local 0|load|write 1|local 10|load|write 1|return")
	body := ""
	for at := range 20 {
		body += "push " + strconv.Itoa(at+1) + "|"
	}
	wantEnd(t, 0, []impl.Code{twenty}, body+"call 0 0|return", nil, impl.EnHalt, 0, "1:20 1:1 1:11")
	// A procedure's address goes on being one while it is on the way.
	set := procOf(t, 2, 2, 0, "local 0|load|local 1|load|store|return")
	take := procOf(t, 0, 2, 0, "local 1|push 5|call 0 0|local 1|load|write 1|local 0|load|write 1|return")
	wantEnd(t, 3, []impl.Code{set, take}, "call 1 0|return", nil, impl.EnHalt, 0, "1:5 1:0")
}

func TestBodiesRunOneBehindTheOther(t *testing.T) {
	add := "push 0|push 0|load|push 1|work +|store|push 0|load|write 1|return"
	x := imageOf(1, bodyCode(assembled(t, add)...), bodyCode(assembled(t, "push 0|load|push 10|work *|write 1|return")...), bodyCode(assembled(t, "trap 3")...), bodyCode(assembled(t, "jump 0")...))
	for _, c := range []struct {
		start           []int
		end, trap, used int
		told            string
	}{
		{nil, impl.EnHalt, 0, 0, ""}, {[]int{0}, impl.EnHalt, 0, 10, "1"}, {[]int{1}, impl.EnHalt, 0, 6, "0"}, {[]int{0, 1}, impl.EnHalt, 0, 16, "1 10"}, {[]int{1, 0}, impl.EnHalt, 0, 16, "0 1"},
		{[]int{0, 0, 0, 1}, impl.EnHalt, 0, 36, "1 2 3 30"}, {[]int{0, 2, 1}, impl.EnTrap, 3, 11, "1"}, {[]int{2}, impl.EnTrap, 3, 1, ""}, {[]int{0, 3, 1}, impl.EnFuel, 0, 20000, "1"}, {[]int{0, 1, 2, 3}, impl.EnTrap, 3, 17, "1 10"},
	} {
		x.Start = c.start
		r := wantRun(t, x, nil, impl.MaxFuel)
		var told []string
		for _, out := range r.Out {
			told = append(told, strconv.Itoa(out.Value))
		}
		if r.End != c.end || r.Trap != c.trap || r.Used != c.used || strings.Join(told, " ") != c.told {
			t.Errorf("%v: %v", c, r)
		}
	}
	x.Start = make([]int, 20)
	if r := wantRun(t, x, nil, impl.MaxFuel); r.End != impl.EnHalt || r.Used != 200 || len(r.Out) != 20 || r.Out[19].Value != 20 {
		t.Error("20 bodies:", r)
	}
}

func TestFuel(t *testing.T) {
	x := fullImage(t)
	input := []int{65}
	whole := wantRun(t, x, input, impl.MaxFuel)
	if whole.End == impl.EnFuel || whole.Used < 20 {
		t.Fatal("a run:", whole)
	}
	for fuel := range whole.Used + 3 {
		r := wantRun(t, x, input, fuel)
		if (fuel < whole.Used) != (r.End == impl.EnFuel) || r.Used != min(fuel, whole.Used) {
			t.Errorf("fuel %d: %v", fuel, r)
		}
	}
	for _, c := range []struct{ inputs, fuel, code int }{
		{0, 0, impl.OK}, {0, 20000, impl.OK}, {0, 20001, impl.ErrRange}, {0, -1, impl.ErrRange}, {0, math.MinInt, impl.ErrRange}, {0, math.MaxInt, impl.ErrRange},
		{99, 5, impl.OK}, {100, 5, impl.OK}, {101, 5, impl.ErrRange}, {4096, 5, impl.ErrRange}, {4097, 5, impl.ErrLong}, {4097, -1, impl.ErrLong}, {101, -1, impl.ErrRange},
	} {
		for _, x := range []impl.Image{x, {}, imageOf(0, bodyCode(end()))} {
			want := c.code
			if len(x.Procs) == 0 && want != impl.ErrLong {
				want = impl.ErrBad
			}
			if r, code := impl.Run(x, make([]int, c.inputs), c.fuel); code != want || code != impl.OK && !reflect.DeepEqual(r, impl.Result{}) {
				t.Errorf("%v: code %d, want %d; %v", c, code, want, r)
			}
		}
	}
	round := imageOf(0, bodyCode(ins(impl.OpJump, 0)))
	for _, fuel := range []int{0, 1, 2, 19999, 20000} {
		if r := wantRun(t, round, nil, fuel); r.End != impl.EnFuel || r.Used != fuel {
			t.Errorf("round with %d: %v", fuel, r)
		}
	}
	// Just enough is what there is of instructions.
	long := imageOf(0, bodyCode(append(repeated(1999, ins(impl.OpJump, 1)), end())...))
	for at := range 1999 {
		long.Procs[0].List[at].A = at + 1
	}
	long.Start = make([]int, 10)
	if r := wantRun(t, long, nil, 20000); r.End != impl.EnHalt || r.Used != 20000 {
		t.Error("20000 instructions:", r)
	}
	if r := wantRun(t, long, nil, 19999); r.End != impl.EnFuel || r.Used != 19999 {
		t.Error("20000 instructions with one too little:", r)
	}
	// A trap, and what finds no room, uses fuel as well.
	for _, last := range []string{"trap 2", "push 1|push 0|work DIV|write 1|return", "push 9|load|write 1|return"} {
		x := imageOf(0, bodyCode(assembled(t, last)...))
		r := wantRun(t, x, nil, 20000)
		if less := wantRun(t, x, nil, r.Used-1); r.End != impl.EnTrap || less.End != impl.EnFuel {
			t.Error(last, r, less)
		}
	}
}

func TestProceduresOnTheWay(t *testing.T) {
	down := procOf(t, 1, 1, 0, "local 0|load|jumpfalse 8|local 0|load|push 1|work -|call 0 0|return")
	for _, c := range []struct{ calls, end int }{{0, impl.EnHalt}, {1, impl.EnHalt}, {47, impl.EnHalt}, {48, impl.EnHalt}, {49, impl.EnRoom}, {50, impl.EnRoom}, {1000, impl.EnRoom}} {
		x := imageOf(0, down, bodyCode(assembled(t, "push "+strconv.Itoa(c.calls)+"|call 0 0|push 1|write 1|return")...))
		r := wantRun(t, x, nil, impl.MaxFuel)
		if r.End != c.end || r.Trap != 0 || (c.end == impl.EnHalt) != (len(r.Out) == 1) {
			t.Errorf("%d calls: %v", c.calls, r)
		}
		// A second body finds as many places as the first one.
		x.Start = []int{1, 1}
		if again := wantRun(t, x, nil, impl.MaxFuel); again.End != c.end || c.end == impl.EnHalt && len(again.Out) != 2 {
			t.Errorf("%d calls, twice: %v", c.calls, again)
		}
	}
	deep := procOf(t, 0, 0, 0, "call 0 0|return")
	r := wantRun(t, imageOf(0, deep, bodyCode(assembled(t, "call 0 0|return")...)), nil, impl.MaxFuel)
	if r.End != impl.EnRoom || r.Used != 50 {
		t.Error("50 on the way:", r)
	}
	if r := wantRun(t, imageOf(0, deep, bodyCode(assembled(t, "call 0 0|return")...)), nil, 49); r.End != impl.EnFuel || r.Used != 49 {
		t.Error("49 on the way:", r)
	}
	// One behind the other there may be any number.
	flat := procOf(t, 0, 2000, 0, "return")
	if r := wantRun(t, imageOf(1000, flat, bodyCode(assembled(t, strings.Repeat("call 0 0|", 1000)+"return")...)), nil, impl.MaxFuel); r.End != impl.EnHalt || r.Used != 2001 {
		t.Error("1000 calls:", r)
	}
}

func TestCellsOnTheWay(t *testing.T) {
	for _, c := range []struct{ globals, first, second, end int }{
		{0, 2000, 1000, impl.EnHalt}, {0, 2000, 1001, impl.EnRoom}, {0, 1000, 2000, impl.EnHalt}, {0, 1001, 2000, impl.EnRoom}, {0, 2000, 2000, impl.EnRoom},
		{1000, 2000, 0, impl.EnHalt}, {1001, 2000, 0, impl.EnRoom}, {3000, 0, 0, impl.EnHalt}, {3000, 1, 0, impl.EnRoom}, {3000, 0, 1, impl.EnRoom}, {2999, 1, 0, impl.EnHalt}, {2998, 1, 1, impl.EnHalt}, {2999, 1, 1, impl.EnRoom}, {1, 1999, 1000, impl.EnHalt}, {1, 1999, 1001, impl.EnRoom},
	} {
		outer, inner := procOf(t, 0, c.first, 0, "call 1 0|return"), procOf(t, 0, c.second, 0, "push 8|write 1|return")
		if c.second > 0 {
			inner.List = assembled(t, "local "+strconv.Itoa(c.second-1)+"|push 8|store|local "+strconv.Itoa(c.second-1)+"|load|write 1|return")
		}
		x := imageOf(c.globals, outer, inner, bodyCode(assembled(t, "call 0 0|call 0 0|return")...))
		r := wantRun(t, x, nil, impl.MaxFuel)
		if r.End != c.end || r.Trap != 0 || c.end == impl.EnHalt && (len(r.Out) != 2 || r.Out[1].Value != 8) {
			t.Errorf("%v: %v", c, r)
		}
	}
}

func TestWhatIsTold(t *testing.T) {
	for _, c := range []struct{ many, end int }{{0, impl.EnHalt}, {1, impl.EnHalt}, {999, impl.EnHalt}, {1000, impl.EnHalt}, {1001, impl.EnRoom}, {1002, impl.EnRoom}} {
		body := "push 0|push " + strconv.Itoa(c.many) + "|store|push 0|load|jumpfalse 14|push 0|load|write 1|push 0|push 0|load|push 1|jump 15|return|work -|store|jump 3"
		x := imageOf(1, bodyCode(assembled(t, body)...))
		if !wantImage(t, x) {
			t.Fatal("not right")
		}
		r := wantRun(t, x, nil, impl.MaxFuel)
		if r.End != c.end || r.Trap != 0 || len(r.Out) != min(c.many, 1000) {
			t.Errorf("%v: end %d, %d told", c, r.End, len(r.Out))
		}
		for at, out := range r.Out {
			if out != (impl.Out{Type: impl.TyInt, Value: c.many - at}) {
				t.Fatal("told:", at, out)
			}
		}
	}
	// The one too many uses fuel.
	x := imageOf(0, bodyCode(assembled(t, "push 1|write 2|jump 0")...))
	if r := wantRun(t, x, nil, impl.MaxFuel); r.End != impl.EnRoom || r.Used != 3002 || len(r.Out) != 1000 {
		t.Error("round and round:", r.End, r.Used, len(r.Out))
	}
	if r := wantRun(t, x, nil, 3001); r.End != impl.EnFuel || len(r.Out) != 1000 {
		t.Error("round and round:", r.End, r.Used, len(r.Out))
	}
}

func TestInputs(t *testing.T) {
	char := "push 0|read 3|push 0|load|write 3|return"
	whole := "push 0|read 1|push 0|load|write 1|return"
	for _, c := range []struct {
		body      string
		input     []int
		end, trap int
		told      string
	}{
		{whole, nil, impl.EnTrap, impl.TrInput, ""}, {char, nil, impl.EnTrap, impl.TrInput, ""},
		{whole, []int{math.MinInt}, impl.EnHalt, 0, "1:-9223372036854775808"}, {whole, []int{math.MaxInt, 4}, impl.EnHalt, 0, "1:9223372036854775807"}, {whole, []int{0xD800}, impl.EnHalt, 0, "1:55296"},
		{char, []int{0}, impl.EnHalt, 0, "3:0"}, {char, []int{0x10FFFF}, impl.EnHalt, 0, "3:1114111"}, {char, []int{0xD7FF}, impl.EnHalt, 0, "3:55295"}, {char, []int{0xE000}, impl.EnHalt, 0, "3:57344"},
		{char, []int{-1}, impl.EnTrap, impl.TrInput, ""}, {char, []int{0x110000}, impl.EnTrap, impl.TrInput, ""}, {char, []int{0xD800}, impl.EnTrap, impl.TrInput, ""}, {char, []int{0xDFFF}, impl.EnTrap, impl.TrInput, ""}, {char, []int{math.MaxInt}, impl.EnTrap, impl.TrInput, ""}, {char, []int{math.MinInt}, impl.EnTrap, impl.TrInput, ""},
		{"push 0|read 1|push 0|read 3|push 0|read 1|push 0|load|write 1|return", []int{-4, 66, -6}, impl.EnHalt, 0, "1:-6"},
		{"push 0|read 1|push 0|read 3|push 0|read 1|push 0|load|write 1|return", []int{-4, 66}, impl.EnTrap, impl.TrInput, ""},
		{"push 0|read 1|push 0|read 3|push 0|read 1|push 0|load|write 1|return", []int{66, -4, 6}, impl.EnTrap, impl.TrInput, ""},
		{"push 1|read 1|return", nil, impl.EnTrap, impl.TrIndex, ""}, {"push -1|read 3|return", []int{-1}, impl.EnTrap, impl.TrIndex, ""},
	} {
		wantEnd(t, 1, nil, c.body, c.input, c.end, c.trap, c.told)
	}
	input := make([]int, 100)
	for at := range input {
		input[at] = at * at
	}
	x := imageOf(1, bodyCode(assembled(t, "push 0|read 1|push 0|load|write 1|jump 0")...))
	for _, many := range []int{0, 1, 99, 100} {
		r := wantRun(t, x, input[:many], impl.MaxFuel)
		if r.End != impl.EnTrap || r.Trap != impl.TrInput || len(r.Out) != many || many > 0 && r.Out[many-1].Value != (many-1)*(many-1) {
			t.Errorf("%d inputs: %v", many, r)
		}
	}
	// Each body goes on where the one ahead stopped.
	x = imageOf(1, bodyCode(assembled(t, whole)...))
	x.Start = []int{0, 0, 0}
	if r := wantRun(t, x, []int{5, 6}, 99); r.Trap != impl.TrInput || len(r.Out) != 2 || r.Out[1].Value != 6 {
		t.Error("three bodies:", r)
	}
}

func TestCharactersOfTheMachine(t *testing.T) {
	for _, n := range []int{math.MinInt, -1, 0, 31, 127, 0xD7FF, 0xD800, 0xDBFF, 0xDFFF, 0xE000, 0x10FFFF, 0x110000, 1 << 32, 1<<32 + 65, math.MaxInt} {
		body := "push " + strconv.Itoa(n) + "|chr|write 3"
		if isCharacter(n) {
			wantTold(t, body, "3:"+strconv.Itoa(n))
		} else {
			wantTrap(t, body, impl.TrChar)
		}
	}
}

// lineOf is what OutText tells of one thing.
func lineOf(out impl.Out) (string, bool) {
	switch {
	case out.Type == impl.TyInt:
		return big.NewInt(int64(out.Value)).String(), true
	case out.Type == impl.TyBool && (out.Value == 0 || out.Value == 1):
		return []string{"FALSE", "TRUE"}[out.Value], true
	case out.Type == impl.TyChar && isCharacter(out.Value):
		c := out.Value
		if c >= 32 && c != 127 && c != '"' {
			return "\"" + string(rune(c)) + "\"", true
		}
		return "0" + strings.ToUpper(big.NewInt(int64(c)).Text(16)) + "X", true
	}
	return "", false
}

func wantOutText(t *testing.T, list ...impl.Out) int {
	t.Helper()
	before := slices.Clone(list)
	want, wantCode := "", impl.OK
	for _, out := range list {
		line, ok := lineOf(out)
		if !ok {
			wantCode = impl.ErrBad
		}
		want += line + "\n"
	}
	if wantCode != impl.OK {
		want = ""
	}
	text, code := impl.OutText(list)
	if text != want || code != wantCode {
		t.Errorf("OutText(%.300v): %.300q, code %d, want %.300q, %d", list, text, code, want, wantCode)
	}
	if !slices.Equal(list, before) {
		t.Error("a list is changed:", before)
	}
	return code
}

func TestOutText(t *testing.T) {
	text, code := impl.OutText([]impl.Out{{Type: impl.TyInt, Value: -12}, {Type: impl.TyBool}, {Type: impl.TyBool, Value: 1}, {Type: impl.TyChar, Value: 'a'}, {Type: impl.TyChar, Value: 10}, {Type: impl.TyChar, Value: 233}, {Type: impl.TyChar, Value: '"'}, {Type: impl.TyChar, Value: 0}, {Type: impl.TyInt}})
	if code != impl.OK || text != "-12\nFALSE\nTRUE\n\"a\"\n0AX\n\"é\"\n022X\n00X\n0\n" {
		t.Errorf("OutText: %q, code %d", text, code)
	}
	if text, code := impl.OutText(nil); text != "" || code != impl.OK {
		t.Errorf("OutText of nothing: %q, code %d", text, code)
	}
	for _, ty := range []int{math.MinInt, -1, 0, 1, 2, 3, 4, 5, 255, 257, math.MaxInt} {
		for _, value := range append(slices.Clone(strangeNumbers), 2, 3, 31, 32, 126, 128, 999999999999999999, 1000000000000000000, -1000000000000000000) {
			out := impl.Out{Type: ty, Value: value}
			first := wantOutText(t, out)
			if code := wantOutText(t, impl.Out{Type: impl.TyInt, Value: 3}, out); code != first {
				t.Errorf("behind another one: code %d, want %d", code, first)
			}
			if code := wantOutText(t, out, impl.Out{Type: impl.TyBool}); code != first {
				t.Errorf("ahead of another one: code %d, want %d", code, first)
			}
		}
	}
	for _, bad := range []impl.Out{{Type: impl.TyBool, Value: 2}, {Type: impl.TyBool, Value: -1}, {Type: impl.TyChar, Value: -1}, {Type: impl.TyChar, Value: 0xD800}, {Type: impl.TyChar, Value: 0x110000}, {}, {Type: 4}, {Type: -1}} {
		if code := wantOutText(t, bad); code != impl.ErrBad {
			t.Errorf("%v: code %d", bad, code)
		}
	}
	for c := range 0x110001 {
		text, code := impl.OutText([]impl.Out{{Type: impl.TyChar, Value: c}})
		if want, ok := lineOf(impl.Out{Type: impl.TyChar, Value: c}); ok != (code == impl.OK) || ok && text != want+"\n" || !ok && text != "" {
			t.Fatalf("OutText of the character %d: %q, code %d", c, text, code)
		}
	}
	for _, c := range []struct{ many, code int }{{1000, impl.OK}, {1001, impl.OK}, {4096, impl.OK}, {4097, impl.ErrLong}, {10000, impl.ErrLong}} {
		list := slices.Repeat([]impl.Out{{Type: impl.TyChar, Value: 0x10FFFF}}, c.many)
		text, code := impl.OutText(list)
		if code != c.code || code == impl.OK && text != strings.Repeat("\"\U0010FFFF\"\n", c.many) || code != impl.OK && text != "" {
			t.Errorf("%d told: code %d, %d bytes", c.many, code, len(text))
		}
		list[c.many-1] = impl.Out{}
		if _, code := impl.OutText(list); code != max(c.code, impl.ErrBad) {
			t.Errorf("%d told, the last one none: code %d", c.many, code)
		}
	}
}

// Promise 6: more fuel changes nothing of a run that ended.
func TestRandomRuns(t *testing.T) {
	source := rand.New(rand.NewSource(23))
	ends := map[[2]int]int{}
	ops := map[int]int{}
	for range 20000 {
		x := randomImage(source)
		if !rightImage(x) {
			continue
		}
		var input []int
		for range source.Intn(5) {
			input = append(input, source.Intn(300)-10)
		}
		r := wantRun(t, x, input, source.Intn(400))
		ends[[2]int{r.End, r.Trap}]++
		for _, proc := range x.Procs {
			for _, i := range proc.List {
				ops[i.Op]++
			}
		}
		if t.Failed() {
			return
		}
	}
	for _, end := range [][2]int{{impl.EnHalt, 0}, {impl.EnFuel, 0}, {impl.EnRoom, 0}, {impl.EnTrap, 1}, {impl.EnTrap, 2}, {impl.EnTrap, 3}, {impl.EnTrap, 4}, {impl.EnTrap, 5}} {
		if ends[end] < 20 {
			t.Error("so many end so:", ends)
			break
		}
	}
	for op := impl.OpPush; op <= impl.OpTrap; op++ {
		if op != impl.OpGlobal && ops[op] < 100 {
			t.Error("there are so many of each Op:", ops)
			break
		}
	}
}
