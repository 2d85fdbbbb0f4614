package tests

import (
	"encoding/binary"
	"hash/fnv"
	"math"
	"math/rand"
	"reflect"
	"strconv"
	"strings"
	"testing"

	"loop.example/g00168/impl"
)

func manyItems(many int) []impl.Item {
	var list []impl.Item
	for i := range many {
		list = append(list, impl.Item{Kind: impl.ItProc, Name: "i" + strconv.Itoa(i)})
	}
	return list
}

func manyParams(many int) []impl.Param {
	var list []impl.Param
	for i := range many {
		list = append(list, impl.Param{Type: 1 + i%3, ByVar: i%2 == 0})
	}
	return list
}

func TestConstantsOfInterfaces(t *testing.T) {
	if impl.MaxItems != 60 || impl.ItConst != 1 || impl.ItVar != 2 || impl.ItProc != 3 {
		t.Error("another constant than the document tells")
	}
}

// rightItem is the document's rule, a Kind at a time.
func rightItem(item impl.Item) bool {
	base := item.Type == impl.TyInt || item.Type == impl.TyBool || item.Type == impl.TyChar
	plain := item.Params == nil || len(item.Params) == 0
	if !textFits(item.Name, "own") {
		return false
	}
	if item.Kind == impl.ItConst {
		fits := item.Type == impl.TyInt || item.Type == impl.TyBool && (item.Value == 0 || item.Value == 1) ||
			item.Type == impl.TyChar && (item.Value >= 0 && item.Value < 0xD800 || item.Value > 0xDFFF && item.Value < 0x110000)
		return base && fits && item.Length == 0 && plain
	}
	if item.Kind == impl.ItVar {
		return base && item.Length > -1 && item.Length < 101 && item.Value == 0 && plain
	}
	for _, param := range item.Params {
		base := param.Type == impl.TyInt || param.Type == impl.TyBool || param.Type == impl.TyChar
		if !base {
			return false
		}
	}
	return item.Kind == impl.ItProc && (base || item.Type == 0) && item.Length == 0 && item.Value == 0 && len(item.Params) < 21
}

func rightInterface(x impl.Interface) bool {
	if !textFits(x.Module, "own") || len(x.Items) > 60 {
		return false
	}
	for i, item := range x.Items {
		if !rightItem(item) {
			return false
		}
		for _, other := range x.Items[:i] {
			if other.Name == item.Name {
				return false
			}
		}
	}
	return true
}

// wantInterface holds all that is said of x together: whether it is right, its bytes, its print.
func wantInterface(t *testing.T, x impl.Interface) bool {
	t.Helper()
	before := copyInterface(x)
	right := rightInterface(x)
	if impl.InterfaceOK(x) != right {
		t.Errorf("InterfaceOK(%.300v) is not %v", x, right)
	}
	b, code := impl.InterfaceBytes(x)
	print, printCode := impl.PrintOf(x)
	if !reflect.DeepEqual(x, before) {
		t.Errorf("changed: %.300v", before)
	}
	if !right {
		if code != impl.ErrBad || b != nil || printCode != impl.ErrBad || print != 0 {
			t.Errorf("%.300v: bytes %q, code %d; print %d, code %d", x, b, code, print, printCode)
		}
		return false
	}
	want := writtenInterface(x)
	if code != impl.OK || string(b) != string(want) {
		t.Errorf("InterfaceBytes(%.300v): %q, code %d, want %q", x, b, code, want)
	}
	sum := fnv.New32a()
	sum.Write(want)
	if printCode != impl.OK || print != int(sum.Sum32()) {
		t.Errorf("PrintOf(%.300v): %d, code %d, want %d", x, print, printCode, sum.Sum32())
	}
	again, code := impl.ReadInterface(b)
	if code != impl.OK || !sameInterface(again, x) {
		t.Errorf("ReadInterface(%q): %.300v, code %d, want %.300v", b, again, code, x)
	}
	return true
}

func writtenInterface(x impl.Interface) []byte {
	text := func(t string) string { return string([]byte{byte(len(t))}) + t }
	var b strings.Builder
	b.WriteString("OI1" + text(x.Module))
	b.WriteByte(byte(len(x.Items)))
	for _, item := range x.Items {
		b.Write([]byte{byte(item.Kind), byte(item.Type), byte(item.Length)})
		b.Write(binary.BigEndian.AppendUint64(nil, uint64(item.Value)))
		b.WriteString(text(item.Name))
		b.WriteByte(byte(len(item.Params)))
		for _, param := range item.Params {
			b.WriteByte(byte(param.Type) + map[bool]byte{true: 8}[param.ByVar])
		}
	}
	return []byte(b.String())
}

func copyInterface(x impl.Interface) impl.Interface {
	items := append([]impl.Item(nil), x.Items...)
	for i := range items {
		items[i].Params = append([]impl.Param(nil), items[i].Params...)
	}
	if x.Items != nil && items == nil {
		items = []impl.Item{}
	}
	for i := range items {
		if x.Items[i].Params != nil && items[i].Params == nil {
			items[i].Params = []impl.Param{}
		}
	}
	x.Items = items
	return x
}

// sameInterface holds nil and empty lists alike.
func sameInterface(a, b impl.Interface) bool {
	if a.Module != b.Module || len(a.Items) != len(b.Items) {
		return false
	}
	for i, item := range a.Items {
		other := b.Items[i]
		if len(item.Params) != len(other.Params) || len(item.Params) > 0 && !reflect.DeepEqual(item.Params, other.Params) {
			return false
		}
		item.Params, other.Params = nil, nil
		if !reflect.DeepEqual(item, other) {
			return false
		}
	}
	return true
}

func face(items ...impl.Item) impl.Interface { return impl.Interface{Module: "A", Items: items} }

func TestRightInterfaces(t *testing.T) {
	for _, x := range []impl.Interface{
		{Module: "A"}, {Module: "_"}, {Module: strings.Repeat("n", 40)}, {Module: "A", Items: []impl.Item{}},
		importA(), face(manyItems(60)...),
		face(impl.Item{Kind: impl.ItConst, Type: impl.TyInt, Value: math.MinInt, Name: strings.Repeat("x", 40), Params: []impl.Param{}}, impl.Item{Kind: impl.ItConst, Type: impl.TyInt, Value: math.MaxInt, Name: "y"}),
		face(impl.Item{Kind: impl.ItVar, Type: impl.TyBool, Length: 100, Name: "x"}),
		face(impl.Item{Kind: impl.ItProc, Name: "x", Params: manyParams(20)}),
		face(impl.Item{Kind: impl.ItProc, Name: "A"}),
		face(impl.Item{Kind: impl.ItProc, Name: "End"}, impl.Item{Kind: impl.ItProc, Name: "end"}, impl.Item{Kind: impl.ItProc, Name: "ENDS"}, impl.Item{Kind: impl.ItProc, Name: "_END"}),
	} {
		if !wantInterface(t, x) {
			t.Errorf("not right: %v", x)
		}
	}
	for _, x := range []impl.Interface{
		{}, {Module: ""}, {Module: "9"}, {Module: "a b"}, {Module: strings.Repeat("n", 41)}, {Module: "é"},
		face(manyItems(61)...), face(manyItems(255)...), face(manyItems(256)...), face(manyItems(5000)...),
		face(impl.Item{}), face(impl.Item{Kind: impl.ItProc}),
		face(impl.Item{Kind: impl.ItProc, Name: "x"}, impl.Item{Kind: impl.ItVar, Type: impl.TyInt, Name: "x"}),
		face(impl.Item{Kind: impl.ItProc, Name: "x", Params: manyParams(21)}),
		face(impl.Item{Kind: impl.ItProc, Name: "x", Params: manyParams(277)}),
		face(impl.Item{Kind: impl.ItProc, Name: strings.Repeat("x", 70000)}),
	} {
		if wantInterface(t, x) {
			t.Errorf("right: %.300v", x)
		}
	}
}

// Each field of each Kind of item takes each number.
func TestInterfacesWithOneChange(t *testing.T) {
	numbers := []int{math.MinInt, -257, -256, -255, -1, 0, 1, 2, 3, 4, 8, 9, 64, 99, 100, 101, 127, 0xD7FF, 0xD800, 0xDFFF, 0xE000, 0x10FFFF, 0x110000, 255, 256, 257, 258, 259, 1 << 32, 1<<32 + 1, math.MaxInt}
	count := map[bool]int{}
	full := importA()
	for at := range full.Items {
		change := func(set func(item *impl.Item)) {
			x := copyInterface(full)
			set(&x.Items[at])
			count[wantInterface(t, x)]++
		}
		for _, n := range numbers {
			change(func(item *impl.Item) { item.Kind = n })
			change(func(item *impl.Item) { item.Type = n })
			change(func(item *impl.Item) { item.Length = n })
			change(func(item *impl.Item) { item.Value = n })
			change(func(item *impl.Item) { item.Params = append(item.Params, impl.Param{Type: n}) })
			change(func(item *impl.Item) { item.Params = append(item.Params, impl.Param{Type: n, ByVar: true}) })
			for _, kind := range []int{impl.ItConst, impl.ItVar, impl.ItProc} {
				for ty := range 5 {
					change(func(item *impl.Item) { item.Kind, item.Type, item.Value = kind, ty, n })
					change(func(item *impl.Item) { item.Kind, item.Type, item.Length = kind, ty, n })
					change(func(item *impl.Item) {
						*item = impl.Item{Kind: kind, Type: ty, Name: "other", Params: []impl.Param{{Type: 1}, {Type: n}}}
					})
				}
			}
		}
		for _, name := range textsOfNodes {
			change(func(item *impl.Item) { item.Name = name })
		}
		for _, other := range full.Items {
			change(func(item *impl.Item) { item.Name = other.Name })
		}
		change(func(item *impl.Item) { item.Params = nil })
		change(func(item *impl.Item) { item.Params = []impl.Param{} })
	}
	for _, name := range textsOfNodes {
		x := copyInterface(full)
		x.Module = name
		count[wantInterface(t, x)]++
	}
	if count[true] < 1000 || count[false] < 1000 {
		t.Error("so many are right, and are not:", count)
	}
}

// Promise 4: the names of an interface are names in modules, so none of them is a word of chapter 2.
func TestInterfacesWithWordsForNames(t *testing.T) {
	module := treeOf(t, "MODULE M; END M.")
	for _, word := range strings.Fields(documentKeys) {
		for _, x := range []impl.Interface{
			{Module: word},
			{Module: word, Items: manyItems(2)},
			face(impl.Item{Kind: impl.ItConst, Type: impl.TyInt, Value: 7, Name: word}),
			face(impl.Item{Kind: impl.ItVar, Type: impl.TyChar, Length: 2, Name: word}),
			face(impl.Item{Kind: impl.ItProc, Name: word}),
			face(append(manyItems(59), impl.Item{Kind: impl.ItProc, Name: word})...),
		} {
			if wantInterface(t, x) || wantRead(t, writtenInterface(x)) {
				t.Errorf("right: %.300v", x)
			}
			imports := []impl.Interface{{Module: "B"}, x}
			if code, place := impl.Check(module, imports); code != impl.ErrBad || place != 0 {
				t.Errorf("Check with %.300v: code %d at %d", x, code, place)
			}
			if y, code := impl.InterfaceOf(module, imports); code != impl.ErrBad || y.Module != "" || y.Items != nil {
				t.Errorf("InterfaceOf with %.300v: code %d, %v", x, code, y)
			}
		}
		for _, name := range []string{strings.ToLower(word), word + "S", word + "1", "X" + word, "_" + word, word + "_"} {
			x := impl.Interface{Module: name, Items: []impl.Item{{Kind: impl.ItVar, Type: impl.TyBool, Name: name}}}
			if !wantInterface(t, x) || !wantRead(t, writtenInterface(x)) {
				t.Errorf("not right: %v", x)
			}
			if code, place := impl.Check(module, []impl.Interface{x}); code != impl.OK || place != 0 {
				t.Errorf("Check with %v: code %d at %d", x, code, place)
			}
		}
	}
}

func randomInterface(source *rand.Rand) impl.Interface {
	x := impl.Interface{Module: string(rune('A' + source.Intn(26)))}
	for i := range source.Intn(6) {
		item := impl.Item{Kind: 1 + source.Intn(3), Type: 1 + source.Intn(3), Name: string(rune('a'+source.Intn(26))) + strconv.Itoa(i)}
		switch item.Kind {
		case impl.ItConst:
			item.Value = []int{source.Int() - source.Int(), source.Intn(2), source.Intn(0xD800)}[item.Type-1]
		case impl.ItVar:
			item.Length = source.Intn(2) * source.Intn(101)
		case impl.ItProc:
			item.Type = source.Intn(4)
			item.Params = manyParams(source.Intn(5) * source.Intn(6))
		}
		x.Items = append(x.Items, item)
	}
	return x
}

func TestRandomInterfaces(t *testing.T) {
	source := rand.New(rand.NewSource(11))
	for range 3000 {
		x := randomInterface(source)
		if !wantInterface(t, x) {
			t.Fatalf("not right: %v", x)
		}
	}
}

func TestWrittenInterfaces(t *testing.T) {
	for _, c := range []struct {
		x    impl.Interface
		want string
	}{
		{impl.Interface{Module: "A"}, "OI1\x01A\x00"},
		{face(impl.Item{Kind: impl.ItConst, Type: impl.TyInt, Value: -2, Name: "k"}), "OI1\x01A\x01\x01\x01\x00\xff\xff\xff\xff\xff\xff\xff\xfe\x01k\x00"},
		{face(impl.Item{Kind: impl.ItConst, Type: impl.TyInt, Value: 0x0102030405060708, Name: "k"}), "OI1\x01A\x01\x01\x01\x00\x01\x02\x03\x04\x05\x06\x07\x08\x01k\x00"},
		{face(impl.Item{Kind: impl.ItVar, Type: impl.TyChar, Length: 100, Name: "vw"}), "OI1\x01A\x01\x02\x03\x64\x00\x00\x00\x00\x00\x00\x00\x00\x02vw\x00"},
		{face(impl.Item{Kind: impl.ItProc, Name: "P", Params: []impl.Param{{Type: 1}, {Type: 2, ByVar: true}, {Type: 3, ByVar: true}}}), "OI1\x01A\x01\x03\x00\x00\x00\x00\x00\x00\x00\x00\x00\x00\x01P\x03\x01\x0a\x0b"},
	} {
		b, code := impl.InterfaceBytes(c.x)
		if code != impl.OK || string(b) != c.want {
			t.Errorf("InterfaceBytes(%v): %q, code %d, want %q", c.x, b, code, c.want)
		}
	}
	for _, c := range []struct {
		x     impl.Interface
		print int
	}{
		{impl.Interface{Module: "A"}, 0x5f00e0c6},
		{impl.Interface{Module: "B"}, 0x38fe665d},
		{face(impl.Item{Kind: impl.ItProc, Type: 1, Name: "F", Params: []impl.Param{{Type: 1, ByVar: true}}}), 0xc41a484a},
	} {
		if print, code := impl.PrintOf(c.x); code != impl.OK || print != c.print {
			t.Errorf("PrintOf(%v): %#x, code %d, want %#x", c.x, print, code, c.print)
		}
	}
}

// readByRule reads what is an interface's bytes by the document, and tells whether they are those of a right one.
func readByRule(b []byte) (impl.Interface, bool) {
	ok := true
	take := func(many int) []byte {
		if many > len(b) {
			ok = false
			return make([]byte, many)
		}
		taken := b[:many]
		b = b[many:]
		return taken
	}
	small := func() int { return int(take(1)[0]) }
	if string(take(3)) != "OI1" {
		return impl.Interface{}, false
	}
	x := impl.Interface{Module: string(take(small()))}
	for range small() {
		item := impl.Item{Kind: small(), Type: small(), Length: small(), Value: int(binary.BigEndian.Uint64(take(8)))}
		item.Name = string(take(small()))
		for range small() {
			switch p := small(); p {
			case 1, 2, 3:
				item.Params = append(item.Params, impl.Param{Type: p})
			case 9, 10, 11:
				item.Params = append(item.Params, impl.Param{Type: p - 8, ByVar: true})
			default:
				ok = false
			}
		}
		x.Items = append(x.Items, item)
	}
	return x, ok && len(b) == 0 && rightInterface(x)
}

func wantRead(t *testing.T, b []byte) bool {
	t.Helper()
	before := string(b)
	want, ok := readByRule(b)
	got, code := impl.ReadInterface(b)
	if string(b) != before {
		t.Errorf("ReadInterface changes %q", before)
	}
	if !ok {
		if code != impl.ErrForm || got.Module != "" || got.Items != nil {
			t.Errorf("ReadInterface(%q): %v, code %d, want none", before, got, code)
		}
		return false
	}
	if code != impl.OK || !sameInterface(got, want) {
		t.Errorf("ReadInterface(%q): %v, code %d, want %v", before, got, code, want)
	}
	return true
}

// Each byte is changed to each other one, taken away, given twice; all that stands ahead of it is read alone.
func TestChangedBytesOfInterfaces(t *testing.T) {
	whole, _ := impl.InterfaceBytes(importA())
	count := map[bool]int{}
	for at := range whole {
		for other := range 256 {
			b := append([]byte(nil), whole...)
			b[at] = byte(other)
			count[wantRead(t, b)]++
		}
		count[wantRead(t, whole[:at])]++
		count[wantRead(t, whole[at:])]++
		count[wantRead(t, append(append([]byte(nil), whole[:at]...), whole[at+1:]...))]++
		count[wantRead(t, append(append([]byte(nil), whole[:at+1]...), whole[at:]...))]++
	}
	for other := range 256 {
		count[wantRead(t, append(append([]byte(nil), whole...), byte(other)))]++
	}
	if !wantRead(t, whole) || count[true] < 1000 || count[false] < 1000 {
		t.Error("so many are read, and are not:", count)
	}
}

func TestBytesThatAreNoInterface(t *testing.T) {
	most, _ := impl.InterfaceBytes(face(manyItems(60)...))
	more := writtenInterface(face(manyItems(61)...))
	params, _ := impl.InterfaceBytes(face(impl.Item{Kind: impl.ItProc, Name: "x", Params: manyParams(20)}))
	moreParams := writtenInterface(face(impl.Item{Kind: impl.ItProc, Name: "x", Params: manyParams(21)}))
	for _, c := range []struct {
		name string
		b    []byte
		code int
	}{
		{"nothing", nil, impl.ErrForm},
		{"no bytes", []byte{}, impl.ErrForm},
		{"a mark alone", []byte("OI1"), impl.ErrForm},
		{"no items told", []byte("OI1\x01A"), impl.ErrForm},
		{"a module", []byte("OI1\x01A\x00"), impl.OK},
		{"a module and one byte", []byte("OI1\x01A\x00\x00"), impl.ErrForm},
		{"no module", []byte("OI1\x00\x00"), impl.ErrForm},
		{"an object's mark", []byte("OO1\x01A\x00"), impl.ErrForm},
		{"another mark", []byte("oi1\x01A\x00"), impl.ErrForm},
		{"a module that is no name", []byte("OI1\x019\x00"), impl.ErrForm},
		{"a module with a word for a name", []byte("OI1\x03END\x00"), impl.ErrForm},
		{"an item with a word for a name", []byte("OI1\x01A\x01\x03\x00\x00\x00\x00\x00\x00\x00\x00\x00\x00\x02IF\x00"), impl.ErrForm},
		{"an item with nearly a word for a name", []byte("OI1\x01A\x01\x03\x00\x00\x00\x00\x00\x00\x00\x00\x00\x00\x02If\x00"), impl.OK},
		{"a module that does not end", []byte("OI1\xffA\x00"), impl.ErrForm},
		{"items that are not there", []byte("OI1\x01A\xff"), impl.ErrForm},
		{"sixty items", most, impl.OK},
		{"more items", more, impl.ErrForm},
		{"twenty parameters", params, impl.OK},
		{"more parameters", moreParams, impl.ErrForm},
		{"noughts", make([]byte, 300), impl.ErrForm},
		{"as many bytes as a text has", make([]byte, impl.MaxText), impl.ErrForm},
		{"more bytes than a text has", make([]byte, impl.MaxText+1), impl.ErrLong},
		{"a module, with more bytes than a text has", append([]byte("OI1\x01A\x00"), make([]byte, impl.MaxText)...), impl.ErrLong},
	} {
		if x, code := impl.ReadInterface(c.b); code != c.code || code != impl.OK && (x.Module != "" || x.Items != nil) {
			t.Errorf("ReadInterface, %s: code %d, want %d; %v", c.name, code, c.code, x)
		}
	}
}

func TestRandomBytesAsInterfaces(t *testing.T) {
	source := rand.New(rand.NewSource(12))
	for range 20000 {
		b, _ := impl.InterfaceBytes(randomInterface(source))
		for range source.Intn(3) {
			b[source.Intn(len(b))] = byte(source.Intn(12))
		}
		wantRead(t, b)
	}
}

func TestInterfacesOfModules(t *testing.T) {
	x, code := impl.InterfaceOf(treeOf(t, "MODULE M; IMPORT A; CONST a* = A.k; b = 2; c* = ~A.t; d* = \"d\"; VAR e*, f: INTEGER; g*: ARRAY 100 OF BOOLEAN; h: CHAR; i*: CHAR; "+
		"PROCEDURE P*(a: INTEGER; VAR b, c: CHAR; d: BOOLEAN): CHAR; VAR e: INTEGER; BEGIN RETURN b END P; PROCEDURE Q(); END Q; PROCEDURE R*(); END R; PROCEDURE M*(): BOOLEAN; END M; END M."), someImports())
	want := impl.Interface{Module: "M", Items: []impl.Item{
		{Kind: impl.ItConst, Type: impl.TyInt, Value: -9, Name: "a"},
		{Kind: impl.ItConst, Type: impl.TyBool, Value: 0, Name: "c"},
		{Kind: impl.ItConst, Type: impl.TyChar, Value: 'd', Name: "d"},
		{Kind: impl.ItVar, Type: impl.TyInt, Name: "e"},
		{Kind: impl.ItVar, Type: impl.TyBool, Length: 100, Name: "g"},
		{Kind: impl.ItVar, Type: impl.TyChar, Name: "i"},
		{Kind: impl.ItProc, Type: impl.TyChar, Name: "P", Params: []impl.Param{{Type: impl.TyInt}, {Type: impl.TyChar, ByVar: true}, {Type: impl.TyChar, ByVar: true}, {Type: impl.TyBool}}},
		{Kind: impl.ItProc, Name: "R"},
		{Kind: impl.ItProc, Type: impl.TyBool, Name: "M"},
	}}
	if code != impl.OK || !sameInterface(x, want) {
		t.Errorf("InterfaceOf: %v, code %d, want %v", x, code, want)
	}
	if !wantInterface(t, x) {
		t.Error("what a module exports is not right:", x)
	}
}

// modules that export so many constants, variables and procedures.
func exporting(consts, vars, procs int) string {
	var b strings.Builder
	b.WriteString("MODULE M; CONST ")
	for i := range consts {
		b.WriteString("c" + strconv.Itoa(i) + "*=1;")
	}
	b.WriteString(" k = 1; VAR ")
	for i := range vars {
		b.WriteString("v" + strconv.Itoa(i) + "*:CHAR;")
	}
	b.WriteString(" v: CHAR; ")
	for i := range procs {
		b.WriteString("PROCEDURE p" + strconv.Itoa(i) + "*();END p" + strconv.Itoa(i) + "; ")
	}
	return b.String() + "END M."
}

func TestManyItems(t *testing.T) {
	for _, c := range []struct{ consts, vars, procs, code int }{
		{0, 0, 0, impl.OK}, {60, 0, 0, impl.OK}, {61, 0, 0, impl.ErrMany}, {0, 60, 0, impl.OK}, {0, 61, 0, impl.ErrMany}, {0, 0, 60, impl.OK}, {0, 0, 61, impl.ErrMany},
		{20, 20, 20, impl.OK}, {21, 20, 20, impl.ErrMany}, {20, 21, 20, impl.ErrMany}, {20, 20, 21, impl.ErrMany}, {100, 0, 0, impl.ErrMany},
	} {
		tree := treeOf(t, exporting(c.consts, c.vars, c.procs))
		if code, place := impl.Check(tree, nil); code != impl.OK || place != 0 {
			t.Errorf("Check with %v exports: code %d at %d", c, code, place)
		}
		x, code := impl.InterfaceOf(tree, nil)
		if code != c.code || code == impl.OK && (x.Module != "M" || len(x.Items) != c.consts+c.vars+c.procs) || code != impl.OK && (x.Module != "" || x.Items != nil) {
			t.Errorf("InterfaceOf with %v exports: code %d, %v", c, code, x)
		}
		if code == impl.OK && !wantInterface(t, x) {
			t.Errorf("with %v exports: not right", c)
		}
	}
	faulty := treeOf(t, strings.Replace(exporting(61, 0, 0), "END M.", "BEGIN RETURN 1 END M.", 1))
	if _, code := impl.InterfaceOf(faulty, nil); code != impl.ErrResult {
		t.Error("many items and a fault: code", code)
	}
}
