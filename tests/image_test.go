package tests

import (
	"math"
	"math/rand"
	"reflect"
	"slices"
	"strconv"
	"strings"
	"testing"

	"loop.example/g00168/impl"
)

// rightImage is the document's rule, with the tests' own reading of when a code verifies.
func rightImage(x impl.Image) bool {
	if x.Globals < 0 || x.Globals > 3000 || len(x.Procs) < 1 || len(x.Procs) > 1200 || len(x.Names) != len(x.Procs) || len(x.Start) > 20 {
		return false
	}
	for _, name := range x.Names {
		if len(name) > 81 {
			return false
		}
	}
	for _, at := range x.Start {
		if at < 0 || at >= len(x.Procs) || x.Procs[at].Name != "" || x.Procs[at].Params != 0 {
			return false
		}
	}
	for _, proc := range x.Procs {
		c := copyCode(proc)
		for at := range c.List {
			i := &c.List[at]
			if i.Op == impl.OpGlobal {
				return false
			}
			if i.Op != impl.OpCall {
				continue
			}
			if i.A < 0 || i.A >= len(x.Procs) || x.Procs[i.A].Name == "" || x.Procs[i.A].Result != i.B {
				return false
			}
			*i = callIns(x.Procs[i.A].Params, i.B)
		}
		if code, _ := verifyByRule(c); code != impl.OK {
			return false
		}
	}
	return true
}

// wantImage holds ImageOK against the tests' own reading, and Run's code with it.
func wantImage(t *testing.T, x impl.Image) bool {
	t.Helper()
	before := copyImage(x)
	right := rightImage(x)
	if impl.ImageOK(x) != right {
		t.Errorf("ImageOK(%.900v) is not %v", x, right)
	}
	if r, code := impl.Run(x, nil, 0); right && code != impl.OK || !right && (code != impl.ErrBad || !reflect.DeepEqual(r, impl.Result{})) {
		t.Errorf("Run(%.900v): %v, code %d, right %v", x, r, code, right)
	}
	if !reflect.DeepEqual(copyImage(x), before) {
		t.Errorf("an image is changed: %.900v", before)
	}
	return right
}

// assembled has instructions as they are listed, with | between them, but for a call, whose procedure is a number, and a return with a result.
func assembled(t *testing.T, text string) []impl.Ins {
	t.Helper()
	var list []impl.Ins
	for _, line := range strings.Split(text, "|") {
		words := strings.Fields(line)
		i := impl.Ins{}
		for op, row := range documentOps {
			if strings.Fields(row.listed)[0] == words[0] {
				i.Op = op
			}
		}
		numbers := []*int{&i.A, &i.B}
		for at, word := range words[1:] {
			n, err := strconv.Atoi(word)
			if i.Op == impl.OpWork {
				n = slices.Index(strings.Fields(documentWorkSigns), word)
			}
			if i.Op == 0 || n < 0 && err != nil {
				t.Fatal("no instruction:", line)
			}
			*numbers[at] = n
		}
		list = append(list, i)
	}
	return list
}

func procOf(t *testing.T, params, cells, result int, text string) impl.Code {
	t.Helper()
	return impl.Code{Name: "P", Params: params, Cells: cells, Result: result, List: assembled(t, text)}
}

// imageOf starts what has no name.
func imageOf(globals int, procs ...impl.Code) impl.Image {
	x := impl.Image{Globals: globals, Procs: procs}
	for at, proc := range procs {
		x.Names = append(x.Names, "M."+proc.Name)
		if proc.Name == "" {
			x.Start = append(x.Start, at)
		}
	}
	return x
}

// fullImage has each Op that an image may have, and two of most things.
func fullImage(t *testing.T) impl.Image {
	t.Helper()
	return imageOf(5,
		procOf(t, 2, 3, 1, "local 0|load|local 1|load|work +|return 1|trap 5"),
		procOf(t, 1, 1, 0, "local 0|load|push 7|store|return"),
		bodyCode(assembled(t, "push 1|push 2|call 0 1|write 1|push 0|call 1 0|return")...),
		bodyCode(assembled(t, "push 4|read 3|push 2|push 0|index 2|load|neg|not|chr|write 3|push 0|jumpfalse 13|jump 0|return")...),
	)
}

func TestRightImages(t *testing.T) {
	plain := bodyCode(end())
	named := impl.Code{Name: "P", List: []impl.Ins{end()}}
	for _, x := range []impl.Image{
		fullImage(t),
		imageOf(0, plain),
		imageOf(3000, plain),
		imageOf(0, named),
		imageOf(0, plain, named, plain),
		{Procs: []impl.Code{plain}, Names: []string{""}},
		{Procs: []impl.Code{plain}, Names: []string{strings.Repeat("\xff", 81)}, Start: []int{}},
		{Procs: []impl.Code{plain, named}, Names: []string{"same", "same"}, Start: []int{0, 0, 0}},
		{Procs: []impl.Code{named, plain, plain}, Names: make([]string, 3), Start: []int{2, 1, 2}},
		imageOf(0, procOf(t, 0, 0, 1, "call 0 1|return 1")),
		imageOf(0, procOf(t, 20, 2000, 0, strings.Repeat("push 1|", 20)+"call 0 0|return"), plain),
		imageOf(0, bodyCode(assembled(t, "call 1 0|return")...), named),
	} {
		if !wantImage(t, x) {
			t.Errorf("not right: %.900v", x)
		}
	}
	for _, x := range []impl.Image{
		{},
		{Procs: []impl.Code{plain}},
		{Procs: []impl.Code{plain}, Names: make([]string, 2)},
		{Procs: []impl.Code{plain, plain}, Names: make([]string, 1)},
		{Names: make([]string, 1)},
		imageOf(0, bodyCode()),
		imageOf(0, bodyCode(assembled(t, "call 0 0|return")...)),
		imageOf(0, plain, bodyCode(assembled(t, "call 0 0|return")...)),
		imageOf(0, plain, bodyCode(globalIns("x"), ins(impl.OpWrite, 1), end())),
		imageOf(0, plain, bodyCode(impl.Ins{Op: impl.OpGlobal}, ins(impl.OpWrite, 1), end())),
		imageOf(0, plain, bodyCode(end(), globalIns("x"))),
		imageOf(0, named, bodyCode(assembled(t, "call 0 1|write 1|return")...)),
		imageOf(0, procOf(t, 0, 0, 1, "trap 5"), bodyCode(assembled(t, "call 0 0|return")...)),
		imageOf(0, procOf(t, 1, 1, 0, "return"), bodyCode(assembled(t, "call 0 0|return")...)),
		imageOf(0, procOf(t, 1, 1, 0, "return"), bodyCode(assembled(t, "push 1|push 1|call 0 0|return")...)),
		imageOf(0, procOf(t, 21, 21, 0, "return"), bodyCode(assembled(t, strings.Repeat("push 1|", 21)+"call 0 0|return")...)),
		imageOf(0, procOf(t, 0, 0, 0, "return"), bodyCode(assembled(t, "push 1|return")...)),
	} {
		if wantImage(t, x) {
			t.Errorf("right: %.900v", x)
		}
	}
}

// What a call takes is what its procedure has as Params, not its A.
func TestCallsOfImages(t *testing.T) {
	procs := []impl.Code{procOf(t, 0, 0, 0, "return"), procOf(t, 1, 1, 0, "return"), procOf(t, 2, 2, 1, "trap 5"), procOf(t, 20, 20, 1, "trap 5"), bodyCode(end())}
	for number, proc := range procs {
		for pushed := range 22 {
			for result := range 2 {
				list := append(repeated(pushed, ins(impl.OpPush, 1)), impl.Ins{Op: impl.OpCall, A: number, B: result})
				if result == 1 {
					list = append(list, ins(impl.OpWrite, 1))
				}
				x := imageOf(0, append(slices.Clone(procs), bodyCode(append(list, end())...))...)
				if want := proc.Name != "" && pushed == proc.Params && result == proc.Result; wantImage(t, x) != want {
					t.Errorf("a call of %v with %d: right %v", proc, pushed, !want)
				}
			}
		}
	}
	for _, number := range []int{-1, 5, 6, math.MinInt, math.MaxInt} {
		if wantImage(t, imageOf(0, append(slices.Clone(procs), bodyCode(impl.Ins{Op: impl.OpCall, A: number}, end()))[1:]...)) {
			t.Error("right with a call of", number)
		}
	}
	// With a name of its own a call is what it is without; the chapter bars none.
	for _, name := range []string{"", "P", "END", "no name"} {
		if !wantImage(t, imageOf(0, procs[0], bodyCode(impl.Ins{Op: impl.OpCall, Mod: name, Name: name}, end()))) {
			t.Error("not right with a call of the name", name)
		}
	}
}

func TestManyThingsOfImages(t *testing.T) {
	procs := func(many int) impl.Image {
		return imageOf(0, slices.Repeat([]impl.Code{{Name: "P", List: []impl.Ins{end()}}}, many)...)
	}
	starts := func(many int) impl.Image {
		x := imageOf(0, bodyCode(end()))
		x.Start = make([]int, many)
		return x
	}
	names := func(at, length int) impl.Image {
		x := procs(3)
		x.Names[at] = strings.Repeat("n", length)
		return x
	}
	globals := func(many int) impl.Image { return imageOf(many, bodyCode(end())) }
	long := func(many int) impl.Image { return imageOf(0, bodyCode(repeated(many, end())...)) }
	for _, c := range []struct {
		name string
		x    impl.Image
		want bool
	}{
		{"no procedure", procs(0), false}, {"1 procedure", procs(1), true}, {"1199 procedures", procs(1199), true}, {"1200 procedures", procs(1200), true}, {"1201 procedures", procs(1201), false}, {"5000 procedures", procs(5000), false},
		{"no Start", starts(0), true}, {"19 Starts", starts(19), true}, {"20 Starts", starts(20), true}, {"21 Starts", starts(21), false}, {"5000 Starts", starts(5000), false},
		{"a Name of 80", names(1, 80), true}, {"a Name of 81", names(2, 81), true}, {"a Name of 82", names(0, 82), false}, {"the last Name of 82", names(2, 82), false}, {"a Name of 70000", names(1, 70000), false},
		{"no Globals", globals(0), true}, {"2999 Globals", globals(2999), true}, {"3000 Globals", globals(3000), true}, {"3001 Globals", globals(3001), false}, {"-1 Globals", globals(-1), false}, {"the least Globals", globals(math.MinInt), false}, {"the most Globals", globals(math.MaxInt), false},
		{"2000 instructions", long(2000), true}, {"2001 instructions", long(2001), false}, {"300000 instructions", long(300000), false},
	} {
		if wantImage(t, c.x) != c.want {
			t.Errorf("%s: right %v", c.name, !c.want)
		}
	}
	x := procs(3)
	x.Procs[2].List = []impl.Ins{ins(impl.OpPush, 1), end()}
	if wantImage(t, x) {
		t.Error("right with a last code that does not verify")
	}
}

func TestStartsOfImages(t *testing.T) {
	x := imageOf(0, bodyCode(end()), impl.Code{Name: "P", List: []impl.Ins{end()}}, bodyCode(ins(impl.OpTrap, 1)), procOf(t, 1, 1, 0, "return"))
	for _, c := range []struct {
		start []int
		want  bool
	}{
		{nil, true}, {[]int{0}, true}, {[]int{2}, true}, {[]int{2, 0}, true}, {[]int{0, 0}, true}, {[]int{1}, false}, {[]int{0, 1}, false}, {[]int{3}, false}, {[]int{0, 2, 3}, false},
		{[]int{4}, false}, {[]int{-1}, false}, {[]int{0, -1}, false}, {[]int{math.MaxInt}, false}, {[]int{math.MinInt}, false},
	} {
		x.Start = c.start
		if wantImage(t, x) != c.want {
			t.Errorf("Start %v: right %v", c.start, !c.want)
		}
	}
}

// Each field of an image takes each number and some texts.
func TestImagesWithOneChange(t *testing.T) {
	count := map[bool]int{}
	change := func(set func(x *impl.Image)) {
		x := copyImage(fullImage(t))
		set(&x)
		count[wantImage(t, x)]++
	}
	for _, n := range []int{math.MinInt, -2, -1, 0, 1, 2, 3, 4, 5, 6, 10, 11, 12, 13, 14, 17, 18, 20, 21, 81, 100, 101, 2000, 2001, 3000, 3001, math.MaxInt} {
		change(func(x *impl.Image) { x.Globals = n })
		for at := range 2 {
			change(func(x *impl.Image) { x.Start[at] = n })
		}
		for at, proc := range fullImage(t).Procs {
			change(func(x *impl.Image) { x.Procs[at].Params = n })
			change(func(x *impl.Image) { x.Procs[at].Cells = n })
			change(func(x *impl.Image) { x.Procs[at].Result = n })
			if n >= 0 && n < 4 {
				change(func(x *impl.Image) { x.Procs[at] = x.Procs[n] })
				change(func(x *impl.Image) { x.Names = slices.Delete(x.Names, min(n, at), at) })
				change(func(x *impl.Image) { x.Procs = slices.Delete(x.Procs, min(n, at), at) })
			}
			for place := range proc.List {
				change(func(x *impl.Image) { x.Procs[at].List[place].Op = n })
				change(func(x *impl.Image) { x.Procs[at].List[place].A = n })
				change(func(x *impl.Image) { x.Procs[at].List[place].B = n })
			}
		}
	}
	for _, text := range []string{"", "P", "M", "END", "IF", "no name", "1", strings.Repeat("n", 40), strings.Repeat("n", 41), strings.Repeat("n", 81), strings.Repeat("n", 82), "\xff"} {
		for at, proc := range fullImage(t).Procs {
			change(func(x *impl.Image) { x.Names[at] = text })
			change(func(x *impl.Image) { x.Procs[at].Name = text })
			for place := range proc.List {
				change(func(x *impl.Image) { x.Procs[at].List[place].Mod = text })
				change(func(x *impl.Image) { x.Procs[at].List[place].Name = text })
			}
		}
	}
	if count[true] < 300 || count[false] < 1000 {
		t.Error("so many are right, and are not:", count)
	}
}

// randomImage has procedures of which each may call each; most of them verify.
func randomImage(source *rand.Rand) impl.Image {
	var procs []impl.Code
	for at := range 1 + source.Intn(4) {
		params := source.Intn(3)
		procs = append(procs, impl.Code{Name: "P" + strconv.Itoa(at), Params: params, Cells: params + source.Intn(4), Result: source.Intn(2)})
	}
	for range 1 + source.Intn(2) {
		procs = append(procs, impl.Code{})
	}
	x := imageOf(source.Intn(8), procs...)
	for at := range x.Procs {
		w := &codeWriter{source: source, x: x, at: at}
		w.some(3 + source.Intn(12))
		w.finish()
		x.Procs[at].List = w.list
	}
	return x
}

// codeWriter writes a code with the depth of its stack in sight.
type codeWriter struct {
	source *rand.Rand
	x      impl.Image
	at     int
	list   []impl.Ins
	depth  int
}

func (w *codeWriter) add(op, a int) { w.list = append(w.list, ins(op, a)) }

func (w *codeWriter) number() int {
	switch w.source.Intn(12) {
	case 0:
		return -1 - w.source.Intn(3)
	case 1:
		return []int{math.MinInt, math.MaxInt, -1, 0xD7FF, 0xD800, 0x10FFFF, 0x110000, 1 << 40}[w.source.Intn(8)]
	}
	return w.source.Intn(12)
}

func (w *codeWriter) finish() {
	for w.depth > 0 {
		w.add(impl.OpWrite, 1+w.source.Intn(3))
		w.depth--
	}
	if w.x.Procs[w.at].Result == 1 {
		w.add(impl.OpPush, w.number())
	}
	w.add(impl.OpReturn, w.x.Procs[w.at].Result)
}

func (w *codeWriter) some(many int) {
	for range many {
		w.one()
	}
}

// one adds an instruction that finds what it takes, or a pair of jumps around some.
func (w *codeWriter) one() {
	own := w.x.Procs[w.at]
	switch op := 1 + w.source.Intn(17); {
	case op == impl.OpLocal && own.Cells > 0:
		w.add(op, w.source.Intn(own.Cells))
		w.depth++
	case op == impl.OpLoad && w.depth > 0, op >= impl.OpNeg && op <= impl.OpNot && w.depth > 0:
		w.add(op, 0)
	case op == impl.OpChr && w.depth > 0 && w.source.Intn(4) == 0:
		w.add(op, 0)
	case op == impl.OpStore && w.depth > 1:
		w.add(op, 0)
		w.depth -= 2
	case op == impl.OpIndex && w.depth > 1:
		w.add(op, 1+w.source.Intn(9))
		w.depth--
	case op == impl.OpWork && w.depth > 1:
		w.add(op, w.source.Intn(11))
		w.depth--
	case op == impl.OpJumpFalse && w.depth > 0 && len(w.list) < 40:
		w.around()
	case op == impl.OpCall:
		number := w.source.Intn(len(w.x.Procs))
		proc := w.x.Procs[number]
		if proc.Name == "" || w.depth < proc.Params {
			return
		}
		w.list = append(w.list, impl.Ins{Op: op, A: number, B: proc.Result})
		w.depth += proc.Result - proc.Params
	case op == impl.OpWrite && w.depth > 0:
		w.add(op, 1+w.source.Intn(3))
		w.depth--
	case op == impl.OpRead && w.depth > 0:
		w.add(op, []int{impl.TyInt, impl.TyChar}[w.source.Intn(2)])
		w.depth--
	default:
		w.add(impl.OpPush, w.number())
		w.depth++
	}
}

// around adds instructions that are passed over if a value is 0, and perhaps done again.
func (w *codeWriter) around() {
	w.depth--
	depth, jump := w.depth, len(w.list)
	w.add(impl.OpJumpFalse, 0)
	w.some(w.source.Intn(6))
	for w.depth > depth {
		w.add(impl.OpWrite, 1)
		w.depth--
	}
	for w.depth < depth {
		w.add(impl.OpPush, w.source.Intn(3))
		w.depth++
	}
	switch w.source.Intn(8) {
	case 0:
		w.add(impl.OpJump, jump+1)
	case 1:
		w.add(impl.OpPush, w.source.Intn(2))
		w.add(impl.OpJumpFalse, jump+1)
	case 2:
		w.add(impl.OpTrap, 1+w.source.Intn(5))
	}
	w.list[jump].A = len(w.list)
}

func TestRandomImages(t *testing.T) {
	source := rand.New(rand.NewSource(22))
	count := map[bool]int{}
	for range 4000 {
		x := randomImage(source)
		count[wantImage(t, x)]++
		for range 3 {
			y := copyImage(x)
			proc := &y.Procs[source.Intn(len(y.Procs))]
			i := &proc.List[source.Intn(len(proc.List))]
			switch source.Intn(5) {
			case 0:
				i.A += source.Intn(3) - 1
			case 1:
				i.B = 1 - i.B
			case 2:
				*i = proc.List[source.Intn(len(proc.List))]
			case 3:
				proc.Params = source.Intn(4)
			case 4:
				proc.Result = 1 - proc.Result
			}
			count[wantImage(t, y)]++
		}
		if t.Failed() {
			return
		}
	}
	if count[true] < 3000 || count[false] < 1000 {
		t.Error("so many are right, and are not:", count)
	}
}
