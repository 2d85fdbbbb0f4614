package tests

import (
	"encoding/binary"
	"math"
	"math/rand"
	"reflect"
	"strconv"
	"strings"
	"testing"

	"loop.example/g00168/impl"
)

// rightObject is the document's rule, with the tests' own reading of when a code verifies.
func rightObject(o impl.Object) bool {
	if !textFits(o.Module, "own") || o.Print < 0 || o.Print > 4294967295 || len(o.Needs) > 20 || len(o.Globals) > 100 || len(o.Procs) < 1 || len(o.Procs) > 60 {
		return false
	}
	for _, need := range o.Needs {
		if !textFits(need.Module, "own") || need.Print < 0 || need.Print > 4294967295 {
			return false
		}
	}
	var names []string
	for _, global := range o.Globals {
		if !textFits(global.Name, "own") || global.Length < 0 || global.Length > 100 {
			return false
		}
		names = append(names, global.Name)
	}
	for i, proc := range o.Procs {
		if code, _ := verifyByRule(proc); code != impl.OK || (proc.Name == "") != (i == len(o.Procs)-1) {
			return false
		}
		names = append(names, proc.Name)
	}
	for i, name := range names {
		for _, other := range names[:i] {
			if other == name {
				return false
			}
		}
	}
	return true
}

func writtenObject(o impl.Object) []byte {
	text := func(t string) string { return string([]byte{byte(len(t))}) + t }
	long := func(n int) string { return string(binary.BigEndian.AppendUint64(nil, uint64(n))) }
	pair := func(n int) string { return string(binary.BigEndian.AppendUint16(nil, uint16(n))) }
	var b strings.Builder
	b.WriteString("OO1" + text(o.Module) + long(o.Print))
	b.WriteByte(byte(len(o.Needs)))
	for _, need := range o.Needs {
		b.WriteString(text(need.Module) + long(need.Print))
	}
	b.WriteByte(byte(len(o.Globals)))
	for _, global := range o.Globals {
		b.WriteString(text(global.Name))
		b.WriteByte(byte(global.Length))
	}
	b.WriteByte(byte(len(o.Procs)))
	for _, proc := range o.Procs {
		b.WriteString(text(proc.Name))
		b.WriteByte(byte(proc.Params))
		b.WriteString(pair(proc.Cells))
		b.WriteByte(byte(proc.Result))
		b.WriteString(pair(len(proc.List)))
		for _, i := range proc.List {
			b.WriteByte(byte(i.Op))
			b.WriteString(long(i.A))
			if i.Op == impl.OpGlobal || i.Op == impl.OpCall {
				b.WriteByte(byte(i.B))
				b.WriteString(text(i.Mod) + text(i.Name))
			}
		}
	}
	return []byte(b.String())
}

// copyObject has lists of its own, and nil for those that are empty.
func copyObject(o impl.Object) impl.Object {
	o.Needs = append([]impl.Need(nil), o.Needs...)
	o.Globals = append([]impl.Global(nil), o.Globals...)
	o.Procs = append([]impl.Code(nil), o.Procs...)
	for i := range o.Procs {
		o.Procs[i] = copyCode(o.Procs[i])
	}
	return o
}

func sameObject(a, b impl.Object) bool { return reflect.DeepEqual(copyObject(a), copyObject(b)) }

func noObject(o impl.Object) bool { return reflect.DeepEqual(o, impl.Object{}) }

// wantObject holds all that is said of o together: whether it is right, its bytes, what is read of them.
func wantObject(t *testing.T, o impl.Object) bool {
	t.Helper()
	before := copyObject(o)
	right := rightObject(o)
	if impl.ObjectOK(o) != right {
		t.Errorf("ObjectOK(%.600v) is not %v", o, right)
	}
	b, code := impl.ObjectBytes(o)
	if !sameObject(o, before) {
		t.Errorf("changed: %.600v", before)
	}
	if !right {
		if code != impl.ErrBad || b != nil {
			t.Errorf("ObjectBytes(%.600v): %.60q, code %d", o, b, code)
		}
		return false
	}
	want := writtenObject(o)
	if len(want) > impl.MaxText {
		if code != impl.ErrSize || b != nil {
			t.Errorf("ObjectBytes(%.600v): %d bytes, code %d, where there are %d", o, len(b), code, len(want))
		}
		return true
	}
	if code != impl.OK || string(b) != string(want) {
		t.Errorf("ObjectBytes(%.600v): %.600q, code %d, want %.600q", o, b, code, want)
	}
	again, code := impl.ReadObject(b)
	if code != impl.OK || !sameObject(again, o) {
		t.Errorf("ReadObject(%.600q): %.600v, code %d, want %.600v", b, again, code, o)
	}
	return true
}

// fullObject has each Op, and of each list two at least.
func fullObject() impl.Object {
	return impl.Object{Module: "M", Print: 4294967295,
		Needs:   []impl.Need{{Module: "A", Print: 0}, {Module: "Bc", Print: 0x01020304}},
		Globals: []impl.Global{{Name: "x"}, {Name: "v", Length: 100}},
		Procs: []impl.Code{
			{Name: "P", Params: 1, Cells: 300, Result: 1, List: []impl.Ins{ins(impl.OpLocal, 299), ins(impl.OpLoad, 0), ins(impl.OpPush, -2), ins(impl.OpWork, 10), ins(impl.OpReturn, 1), ins(impl.OpTrap, 5)}},
			{Name: "Q", List: []impl.Ins{globalIns("x"), ins(impl.OpPush, 1), ins(impl.OpNeg, 0), ins(impl.OpStore, 0), end()}},
			{List: []impl.Ins{globalIns("v"), ins(impl.OpPush, 0), ins(impl.OpIndex, 100), {Op: impl.OpGlobal, Mod: "A", Name: "y"}, ins(impl.OpLoad, 0), ins(impl.OpNot, 0), ins(impl.OpChr, 0), ins(impl.OpStore, 0),
				ins(impl.OpPush, math.MinInt), ins(impl.OpJumpFalse, 11), ins(impl.OpJump, 0), globalIns("x"), ins(impl.OpRead, 3), ins(impl.OpPush, math.MaxInt), callIns(1, 1), ins(impl.OpWrite, 3), callIns(0, 0), end()}},
		}}
}

func TestRightObjects(t *testing.T) {
	body := []impl.Code{bodyCode(end())}
	for _, o := range []impl.Object{
		fullObject(),
		{Module: "M", Procs: body},
		{Module: "_", Procs: body, Needs: []impl.Need{}, Globals: []impl.Global{}},
		{Module: strings.Repeat("n", 40), Print: 1, Procs: body},
		{Module: "M", Needs: []impl.Need{{Module: "M"}, {Module: "A"}, {Module: "A", Print: 3}}, Procs: body},
		{Module: "M", Globals: []impl.Global{{Name: "M", Length: 1}}, Procs: body},
		{Module: "M", Procs: []impl.Code{{Name: "M", List: body[0].List}, body[0]}},
		{Module: "End", Needs: []impl.Need{{Module: "end"}}, Globals: []impl.Global{{Name: "ENDS"}}, Procs: []impl.Code{{Name: "_END", List: body[0].List}, body[0]}},
	} {
		if !wantObject(t, o) {
			t.Errorf("not right: %v", o)
		}
	}
	for _, o := range []impl.Object{
		{}, {Module: "M"}, {Procs: body}, {Module: "M", Procs: []impl.Code{{}}},
		{Module: "M", Procs: []impl.Code{{Name: "P", List: body[0].List}}},
		{Module: "M", Procs: []impl.Code{body[0], body[0]}},
		{Module: "M", Procs: []impl.Code{body[0], {Name: "P", List: body[0].List}}},
		{Module: "M", Procs: []impl.Code{body[0], {Name: "P", List: body[0].List}, body[0]}},
		{Module: "M", Procs: []impl.Code{{Name: "P", List: body[0].List}, {Name: "P", List: body[0].List}, body[0]}},
		{Module: "M", Globals: []impl.Global{{Name: "x"}, {Name: "y"}, {Name: "x", Length: 4}}, Procs: body},
		{Module: "M", Globals: []impl.Global{{Name: "x"}}, Procs: []impl.Code{{Name: "x", List: body[0].List}, body[0]}},
		{Module: "M", Globals: []impl.Global{{}}, Procs: body},
		{Module: "M", Needs: []impl.Need{{}}, Procs: body},
		{Module: "M", Procs: []impl.Code{bodyCode(ins(impl.OpPush, 1), end())}},
		{Module: "M", Procs: []impl.Code{{Name: "P", List: []impl.Ins{ins(impl.OpJump, 1)}}, body[0]}},
	} {
		if wantObject(t, o) {
			t.Errorf("right: %v", o)
		}
	}
}

// manyObject has so many of each.
func manyObject(needs, globals, procs int) impl.Object {
	o := impl.Object{Module: "M"}
	for i := range needs {
		o.Needs = append(o.Needs, impl.Need{Module: "N" + strconv.Itoa(i), Print: i})
	}
	for i := range globals {
		o.Globals = append(o.Globals, impl.Global{Name: "g" + strconv.Itoa(i), Length: i % 101})
	}
	for i := range procs {
		o.Procs = append(o.Procs, impl.Code{Name: "p" + strconv.Itoa(i), List: []impl.Ins{end()}})
	}
	if procs > 0 {
		o.Procs[procs-1].Name = ""
	}
	return o
}

func TestManyThingsOfObjects(t *testing.T) {
	for _, c := range []struct {
		needs, globals, procs int
		want                  bool
	}{
		{0, 0, 0, false}, {0, 0, 1, true}, {0, 0, 2, true}, {0, 0, 59, true}, {0, 0, 60, true}, {0, 0, 61, false}, {0, 0, 255, false}, {0, 0, 256, false}, {0, 0, 257, false}, {0, 0, 5000, false},
		{1, 0, 1, true}, {19, 0, 1, true}, {20, 0, 1, true}, {21, 0, 1, false}, {256, 0, 1, false}, {257, 0, 1, false}, {5000, 0, 1, false},
		{0, 1, 1, true}, {0, 99, 1, true}, {0, 100, 1, true}, {0, 101, 1, false}, {0, 256, 1, false}, {0, 257, 1, false}, {0, 5000, 1, false},
		{20, 100, 60, true}, {21, 100, 60, false}, {20, 101, 60, false}, {20, 100, 61, false},
	} {
		if got := wantObject(t, manyObject(c.needs, c.globals, c.procs)); got != c.want {
			t.Errorf("%v: right %v", c, got)
		}
	}
}

func TestNumbersOfObjects(t *testing.T) {
	for _, c := range []struct {
		print, length int
		want          bool
	}{
		{0, 0, true}, {1, 1, true}, {4294967295, 100, true}, {4294967296, 0, false}, {-1, 0, false}, {math.MaxInt, 0, false}, {math.MinInt, 0, false},
		{0, 101, false}, {0, -1, false}, {0, 256, false}, {0, 300, false}, {0, math.MaxInt, false}, {0, math.MinInt, false}, {1 << 40, 0, false},
	} {
		own, needed := manyObject(1, 1, 1), manyObject(2, 2, 2)
		own.Print, own.Globals[0].Length = c.print, c.length
		needed.Needs[1].Print, needed.Globals[1].Length = c.print, c.length
		if wantObject(t, own) != c.want || wantObject(t, needed) != c.want {
			t.Errorf("%v: not what is wanted", c)
		}
	}
}

// Each field of an object takes each number and each text.
func TestObjectsWithOneChange(t *testing.T) {
	count := map[bool]int{}
	change := func(set func(o *impl.Object)) {
		o := copyObject(fullObject())
		set(&o)
		count[wantObject(t, o)]++
	}
	for _, n := range []int{math.MinInt, -257, -256, -1, 0, 1, 2, 3, 5, 7, 10, 11, 17, 18, 20, 21, 99, 100, 101, 255, 256, 257, 299, 300, 301, 1999, 2000, 2001, 65536, 4294967295, 4294967296, 4294967297, math.MaxInt} {
		change(func(o *impl.Object) { o.Print = n })
		for at := range 2 {
			change(func(o *impl.Object) { o.Needs[at].Print = n })
			change(func(o *impl.Object) { o.Globals[at].Length = n })
		}
		for at, proc := range fullObject().Procs {
			change(func(o *impl.Object) { o.Procs[at].Params = n })
			change(func(o *impl.Object) { o.Procs[at].Cells = n })
			change(func(o *impl.Object) { o.Procs[at].Result = n })
			for place := range proc.List {
				change(func(o *impl.Object) { o.Procs[at].List[place].Op = n })
				change(func(o *impl.Object) { o.Procs[at].List[place].A = n })
				change(func(o *impl.Object) { o.Procs[at].List[place].B = n })
			}
		}
	}
	for _, text := range append(append(strings.Fields(documentKeys), "P", "Q", "v", "A", "M", "new"), textsOfNodes...) {
		change(func(o *impl.Object) { o.Module = text })
		for at := range 2 {
			change(func(o *impl.Object) { o.Needs[at].Module = text })
			change(func(o *impl.Object) { o.Globals[at].Name = text })
		}
		for at, proc := range fullObject().Procs {
			change(func(o *impl.Object) { o.Procs[at].Name = text })
			for place := range proc.List {
				change(func(o *impl.Object) { o.Procs[at].List[place].Mod = text })
				change(func(o *impl.Object) { o.Procs[at].List[place].Name = text })
			}
		}
	}
	if count[true] < 300 || count[false] < 1000 {
		t.Error("so many are right, and are not:", count)
	}
}

func TestObjectsWithOtherLists(t *testing.T) {
	change := func(want bool, set func(o *impl.Object)) {
		t.Helper()
		o := copyObject(fullObject())
		set(&o)
		if got := wantObject(t, o); got != want {
			t.Errorf("right %v: %v", got, o)
		}
	}
	change(true, func(o *impl.Object) { o.Needs = nil })
	change(true, func(o *impl.Object) { o.Globals = nil })
	change(false, func(o *impl.Object) { o.Procs = nil })
	change(true, func(o *impl.Object) { o.Procs = o.Procs[1:] })
	change(true, func(o *impl.Object) { o.Procs = o.Procs[2:] })
	change(false, func(o *impl.Object) { o.Procs = o.Procs[:2] })
	change(false, func(o *impl.Object) { o.Procs[0], o.Procs[2] = o.Procs[2], o.Procs[0] })
	change(true, func(o *impl.Object) { o.Procs[0], o.Procs[1] = o.Procs[1], o.Procs[0] })
	for at, proc := range fullObject().Procs {
		change(false, func(o *impl.Object) { o.Procs[at].List = nil })
		change(false, func(o *impl.Object) { o.Procs[at].List = proc.List[:1] })
		change(true, func(o *impl.Object) { o.Procs[at].List = append(proc.List, ins(impl.OpLoad, 0)) })
		change(false, func(o *impl.Object) { o.Procs[at].List = append(proc.List, ins(impl.OpTrap, 0)) })
	}
}

// Promise 5: the names of objects are names in modules, so none of them is a word of chapter 2.
func TestObjectsWithWordsForNames(t *testing.T) {
	places := func(name string) []impl.Object {
		var list []impl.Object
		for at := range 6 {
			o := copyObject(fullObject())
			switch at {
			case 0:
				o.Module = name
			case 1:
				o.Needs[1].Module = name
			case 2:
				o.Globals[1].Name = name
			case 3:
				o.Procs[1].Name = name
			case 4:
				o.Procs[2].List[3].Mod = name
			case 5:
				o.Procs[2].List[14].Name = name
			}
			list = append(list, o)
		}
		return list
	}
	for _, word := range strings.Fields(documentKeys) {
		for at, o := range places(word) {
			if wantObject(t, o) || wantReadObject(t, writtenObject(o)) {
				t.Errorf("right with %s at place %d", word, at)
			}
		}
		for _, name := range []string{strings.ToLower(word), word + "S", "_" + word} {
			for at, o := range places(name) {
				if !wantObject(t, o) || !wantReadObject(t, writtenObject(o)) {
					t.Errorf("not right with %s at place %d", name, at)
				}
			}
		}
	}
}

func TestWrittenObjects(t *testing.T) {
	o := impl.Object{Module: "Mo", Print: 0x01020304, Needs: []impl.Need{{Module: "A", Print: 0xFFFFFFFF}}, Globals: []impl.Global{{Name: "x"}, {Name: "vw", Length: 100}},
		Procs: []impl.Code{{Name: "P", Params: 2, Cells: 2000, Result: 1, List: []impl.Ins{ins(impl.OpPush, -2), ins(impl.OpReturn, 1)}},
			bodyCode(impl.Ins{Op: impl.OpGlobal, Mod: "Mo", Name: "x"}, ins(impl.OpPush, 0x0102030405060708), impl.Ins{Op: impl.OpCall, A: 2, B: 1, Mod: "A", Name: "fg"}, ins(impl.OpWrite, 3), end())}}
	want := "OO1\x02Mo\x00\x00\x00\x00\x01\x02\x03\x04" + "\x01\x01A\x00\x00\x00\x00\xff\xff\xff\xff" + "\x02\x01x\x00\x02vw\x64" + "\x02" +
		"\x01P\x02\x07\xd0\x01\x00\x02" + "\x01\xff\xff\xff\xff\xff\xff\xff\xfe" + "\x0e\x00\x00\x00\x00\x00\x00\x00\x01" +
		"\x00\x00\x00\x00\x00\x00\x05" + "\x03\x00\x00\x00\x00\x00\x00\x00\x00\x00\x02Mo\x01x" + "\x01\x01\x02\x03\x04\x05\x06\x07\x08" + "\x0d\x00\x00\x00\x00\x00\x00\x00\x02\x01\x01A\x02fg" +
		"\x0f\x00\x00\x00\x00\x00\x00\x00\x03" + "\x0e\x00\x00\x00\x00\x00\x00\x00\x00"
	b, code := impl.ObjectBytes(o)
	if code != impl.OK || string(b) != want {
		t.Errorf("ObjectBytes: code %d, %q, want %q", code, b, want)
	}
	again, code := impl.ReadObject([]byte(want))
	if code != impl.OK || !sameObject(again, o) {
		t.Errorf("ReadObject: code %d, %v, want %v", code, again, o)
	}
	least := "OO1\x01M\x00\x00\x00\x00\x00\x00\x00\x00\x00\x00\x01\x00\x00\x00\x00\x00\x00\x01\x0e\x00\x00\x00\x00\x00\x00\x00\x00"
	if b, code := impl.ObjectBytes(impl.Object{Module: "M", Procs: []impl.Code{bodyCode(end())}}); code != impl.OK || string(b) != least {
		t.Errorf("ObjectBytes: code %d, %q, want %q", code, b, least)
	}
}

// Promise 5: an OpPush of any number is written and read back.
func TestPushesAreReadBack(t *testing.T) {
	source := rand.New(rand.NewSource(15))
	numbers := []int{0, 1, -1, 255, 256, 65535, 65536, math.MaxInt32, math.MinInt32, math.MaxInt, math.MinInt, math.MinInt + 1, 999999999999999999, -999999999999999999}
	for shift := range 64 {
		numbers = append(numbers, 1<<shift, 1<<shift-1, -1<<shift)
	}
	for range 2000 {
		numbers = append(numbers, int(source.Uint64())>>source.Intn(64))
	}
	for _, n := range numbers {
		o := impl.Object{Module: "M", Procs: []impl.Code{bodyCode(ins(impl.OpPush, n), ins(impl.OpWrite, 1), end())}}
		if !wantObject(t, o) {
			t.Errorf("not right with %d", n)
		}
		if text, code := impl.Listing(o.Procs[0]); code != impl.OK || text != "0 push "+strconv.Itoa(n)+"\n1 write 1\n2 return\n" {
			t.Errorf("Listing with %d: code %d, %q", n, code, text)
		}
	}
}

// sizedObject has so many bytes, a large number: instructions as long as there is room, then names of variables that fill it up.
func sizedObject(t *testing.T, size int) impl.Object {
	t.Helper()
	o := impl.Object{Module: "M", Procs: []impl.Code{{Name: "P", List: []impl.Ins{end()}}, {Name: "Q", List: []impl.Ins{end()}}, {Name: "R", List: []impl.Ins{end()}}, {Name: "S", List: []impl.Ins{end()}}, bodyCode(end())}}
	many := (size - len(writtenObject(o)) - 100) / 9
	for at := range o.Procs {
		part := min(many, 1999)
		many -= part
		o.Procs[at].List = append(o.Procs[at].List, repeated(part, ins(impl.OpTrap, 1))...)
	}
	for rest := size - len(writtenObject(o)); rest > 0; rest = size - len(writtenObject(o)) {
		length := 20
		if rest <= 42 {
			length = rest - 2
		}
		o.Globals = append(o.Globals, impl.Global{Name: strings.Repeat(string(rune('a'+len(o.Globals))), length)})
	}
	if got := len(writtenObject(o)); got != size {
		t.Fatal("an object of another size:", got)
	}
	return o
}

func TestSizesOfObjects(t *testing.T) {
	for _, c := range []struct{ size, code int }{{65535, impl.OK}, {65536, impl.OK}, {65537, impl.ErrSize}, {65600, impl.ErrSize}, {89000, impl.ErrSize}} {
		o := sizedObject(t, c.size)
		if !wantObject(t, o) {
			t.Error("not right:", c)
		}
		b, code := impl.ObjectBytes(o)
		if code != c.code || code == impl.OK && len(b) != c.size || code != impl.OK && b != nil {
			t.Errorf("ObjectBytes of %d: code %d, %d bytes", c.size, code, len(b))
		}
		again, code := impl.ReadObject(writtenObject(o))
		if want := map[int]int{impl.ErrSize: impl.ErrLong}[c.code]; code != want || code != impl.OK && !noObject(again) {
			t.Errorf("ReadObject of %d: code %d", c.size, code)
		}
	}
	wrong := sizedObject(t, 65600)
	wrong.Print = -1
	if b, code := impl.ObjectBytes(wrong); code != impl.ErrBad || b != nil {
		t.Errorf("ObjectBytes of one too large that is not right: code %d", code)
	}
	var most impl.Object
	most.Module = "M"
	for at := range 60 {
		list := append(repeated(1999, impl.Ins{Op: impl.OpCall, Mod: strings.Repeat("m", 40), Name: strings.Repeat("n", 40)}), end())
		most.Procs = append(most.Procs, impl.Code{Name: "p" + strconv.Itoa(at), List: list})
	}
	most.Procs[59].Name = ""
	if b, code := impl.ObjectBytes(most); !impl.ObjectOK(most) || code != impl.ErrSize || b != nil {
		t.Errorf("ObjectBytes of the largest one: code %d", code)
	}
}

// readObjectByRule reads what is an object's bytes by the document, and tells whether they are those of a right one.
func readObjectByRule(b []byte) (impl.Object, bool) {
	ok := true
	take := func(many int) []byte {
		if many > len(b) {
			ok, b = false, nil
			return make([]byte, many)
		}
		taken := b[:many]
		b = b[many:]
		return taken
	}
	small := func() int { return int(take(1)[0]) }
	pair := func() int { return int(binary.BigEndian.Uint16(take(2))) }
	long := func() int { return int(binary.BigEndian.Uint64(take(8))) }
	text := func() string { return string(take(small())) }
	if string(take(3)) != "OO1" {
		return impl.Object{}, false
	}
	o := impl.Object{Module: text(), Print: long()}
	for many := small(); many > 0 && ok; many-- {
		o.Needs = append(o.Needs, impl.Need{Module: text(), Print: long()})
	}
	for many := small(); many > 0 && ok; many-- {
		o.Globals = append(o.Globals, impl.Global{Name: text(), Length: small()})
	}
	for many := small(); many > 0 && ok; many-- {
		proc := impl.Code{Name: text(), Params: small(), Cells: pair(), Result: small()}
		for many := pair(); many > 0 && ok; many-- {
			i := impl.Ins{Op: small(), A: long()}
			if i.Op == impl.OpGlobal || i.Op == impl.OpCall {
				i.B, i.Mod, i.Name = small(), text(), text()
			}
			proc.List = append(proc.List, i)
		}
		o.Procs = append(o.Procs, proc)
	}
	return o, ok && len(b) == 0 && rightObject(o)
}

func wantReadObject(t *testing.T, b []byte) bool {
	t.Helper()
	before := string(b)
	want, ok := readObjectByRule(b)
	got, code := impl.ReadObject(b)
	if string(b) != before {
		t.Errorf("ReadObject changes %.600q", before)
	}
	if !ok {
		if code != impl.ErrForm || !noObject(got) {
			t.Errorf("ReadObject(%.600q): %.600v, code %d, want none", before, got, code)
		}
		return false
	}
	if code != impl.OK || !sameObject(got, want) {
		t.Errorf("ReadObject(%.600q): %.600v, code %d, want %.600v", before, got, code, want)
	}
	return true
}

// Each byte is changed to each other one, taken away, given twice; all that stands ahead of it is read alone.
func TestChangedBytesOfObjects(t *testing.T) {
	whole := writtenObject(fullObject())
	count := map[bool]int{}
	for at := range whole {
		for other := range 256 {
			b := append([]byte(nil), whole...)
			b[at] = byte(other)
			count[wantReadObject(t, b)]++
		}
		count[wantReadObject(t, whole[:at])]++
		count[wantReadObject(t, whole[at:])]++
		count[wantReadObject(t, append(append([]byte(nil), whole[:at]...), whole[at+1:]...))]++
		count[wantReadObject(t, append(append([]byte(nil), whole[:at+1]...), whole[at:]...))]++
	}
	for other := range 256 {
		count[wantReadObject(t, append(append([]byte(nil), whole...), byte(other)))]++
	}
	if !wantReadObject(t, whole) || count[true] < 1000 || count[false] < 1000 {
		t.Error("so many are read, and are not:", count)
	}
}

func TestBytesThatAreNoObject(t *testing.T) {
	least := string(writtenObject(manyObject(0, 0, 1)))
	for _, c := range []struct {
		name, b string
		code    int
	}{
		{"nothing", "", impl.ErrForm},
		{"a mark alone", "OO1", impl.ErrForm},
		{"the least object", least, impl.OK},
		{"the least object but a byte", least[:len(least)-1], impl.ErrForm},
		{"the least object and a byte", least + "\x00", impl.ErrForm},
		{"an interface's mark", "OI1" + least[3:], impl.ErrForm},
		{"a small mark", "oo1" + least[3:], impl.ErrForm},
		{"another mark", "OO2" + least[3:], impl.ErrForm},
		{"an interface", string(writtenInterface(importA())), impl.ErrForm},
		{"20 needs", string(writtenObject(manyObject(20, 0, 1))), impl.OK},
		{"21 needs", string(writtenObject(manyObject(21, 0, 1))), impl.ErrForm},
		{"100 variables", string(writtenObject(manyObject(0, 100, 1))), impl.OK},
		{"101 variables", string(writtenObject(manyObject(0, 101, 1))), impl.ErrForm},
		{"60 procedures", string(writtenObject(manyObject(0, 0, 60))), impl.OK},
		{"61 procedures", string(writtenObject(manyObject(0, 0, 61))), impl.ErrForm},
		{"no procedure", string(writtenObject(manyObject(0, 0, 0))), impl.ErrForm},
		{"as many instructions as may be", string(writtenObject(impl.Object{Module: "M", Procs: []impl.Code{bodyCode(repeated(2000, end())...)}})), impl.OK},
		{"more instructions", string(writtenObject(impl.Object{Module: "M", Procs: []impl.Code{bodyCode(repeated(2001, end())...)}})), impl.ErrForm},
		{"instructions that are not there", least[:len(least)-11] + "\xff\xff", impl.ErrForm},
		{"instructions of noughts", least[:len(least)-11] + "\xff\xff" + strings.Repeat("\x00", 60000), impl.ErrForm},
		{"noughts", strings.Repeat("\x00", 300), impl.ErrForm},
		{"a mark and noughts", "OO1" + strings.Repeat("\x00", 300), impl.ErrForm},
		{"a mark and the greatest bytes", "OO1" + strings.Repeat("\xff", 60000), impl.ErrForm},
		{"as many bytes as a text has", "OO1" + strings.Repeat("\x01", impl.MaxText-3), impl.ErrForm},
		{"more bytes than a text has", "OO1" + strings.Repeat("\x01", impl.MaxText-2), impl.ErrLong},
		{"an object, with more bytes than a text has", least + strings.Repeat("\x00", impl.MaxText), impl.ErrLong},
	} {
		if o, code := impl.ReadObject([]byte(c.b)); code != c.code || code != impl.OK && !noObject(o) {
			t.Errorf("ReadObject, %s: code %d, want %d; %.600v", c.name, code, c.code, o)
		}
	}
	if o, code := impl.ReadObject(nil); code != impl.ErrForm || !noObject(o) {
		t.Errorf("ReadObject of nil: code %d, %v", code, o)
	}
}

// randomObject is made of codes some of which verify.
func randomObject(source *rand.Rand) impl.Object {
	o := manyObject(source.Intn(3), source.Intn(4), 1+source.Intn(4))
	o.Print = source.Intn(1 << 32)
	for i := range o.Procs {
		for range 50 {
			c := randomCode(source)
			c.Name = o.Procs[i].Name
			if c.Name == "" {
				c.Params, c.Cells, c.Result = 0, 0, 0
			}
			if code, _ := verifyByRule(c); code == impl.OK {
				o.Procs[i] = c
				break
			}
		}
	}
	return o
}

func TestRandomObjects(t *testing.T) {
	source := rand.New(rand.NewSource(16))
	count := map[bool]int{}
	for range 3000 {
		o := randomObject(source)
		if !wantObject(t, o) {
			t.Fatalf("not right: %v", o)
		}
		b := writtenObject(o)
		for range 1 + source.Intn(2) {
			b[source.Intn(len(b))] = byte(source.Intn(20))
		}
		count[wantReadObject(t, b)]++
	}
	if count[true] < 100 || count[false] < 100 {
		t.Error("so many are read, and are not:", count)
	}
}
