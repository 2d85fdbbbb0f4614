package tests

import (
	"encoding/binary"
	"hash/fnv"
	"math"
	"math/rand"
	"reflect"
	"slices"
	"strconv"
	"strings"
	"testing"

	"loop.example/g00168/impl"
)

func sumByRule(e impl.Entry) int {
	long := func(n int) string { return string(binary.BigEndian.AppendUint64(nil, uint64(n))) }
	sum := fnv.New32a()
	sum.Write([]byte(e.Module + " " + long(len(e.Source)) + e.Source + long(len(e.Faces)) + e.Faces + e.Bytes))
	return int(sum.Sum32())
}

// entryByRule is the object of an entry that is right.
func entryByRule(e impl.Entry) (impl.Object, bool) {
	if len(e.Source) > 4000 || len(e.Faces) > 65536 || len(e.Bytes) > 65536 || e.Sum != sumByRule(e) {
		return impl.Object{}, false
	}
	o, ok := readObjectByRule([]byte(e.Bytes))
	return o, ok && o.Module == e.Module
}

func wantEntry(t *testing.T, e impl.Entry) bool {
	t.Helper()
	_, want := entryByRule(e)
	if impl.EntryOK(e) != want {
		t.Errorf("EntryOK(%.600v) is not %v", e, want)
	}
	return want
}

// summed has the sum that it should have.
func summed(e impl.Entry) impl.Entry {
	e.Sum = sumByRule(e)
	return e
}

// entryOf keeps an object, whatever it was made of.
func entryOf(source, faces string, o impl.Object) impl.Entry {
	return summed(impl.Entry{Module: o.Module, Source: source, Faces: faces, Bytes: string(writtenObject(o))})
}

const (
	keptA = "MODULE A; CONST k* = 1; PROCEDURE F*(): INTEGER; BEGIN RETURN k END F; BEGIN WRITE(k) END A."
	keptM = "MODULE M; IMPORT A; BEGIN WRITE(A.k + A.F()) END M."
)

// keptEntries are those of keptA and keptM.
func keptEntries(t *testing.T) []impl.Entry {
	t.Helper()
	built, entries := wantClean(t, filesOf(keptA, keptM), "M")
	if built.Code != impl.OK || len(entries) != 2 || entries[0].Module != "A" || entries[1].Module != "M" {
		t.Fatal("entries:", entries)
	}
	return entries
}

func TestEntriesOfABuild(t *testing.T) {
	list := keptEntries(t)
	x, _ := impl.InterfaceOf(treeOf(t, keptA), nil)
	faces, _ := impl.InterfaceBytes(x)
	o, _, _ := impl.Compile(treeOf(t, keptM), []impl.Interface{x})
	bytes, _ := impl.ObjectBytes(o)
	if want := summed(impl.Entry{Module: "M", Source: keptM, Faces: string(faces), Bytes: string(bytes)}); list[1] != want {
		t.Errorf("an entry: %v, want %v", list[1], want)
	}
	if list[0].Source != keptA || list[0].Faces != "" || list[0].Sum != sumByRule(list[0]) {
		t.Errorf("an entry: %v", list[0])
	}
	// Faces are those of the imports, in their order, and of no others that are built.
	files := filesOf("MODULE M; IMPORT C, A; END M.", "MODULE A; IMPORT B; CONST a* = 1; END A.", "MODULE B; CONST b* = 2; END B.", "MODULE C; CONST c* = 3; END C.")
	_, entries := wantClean(t, files, "M")
	var written []string
	for _, name := range []string{"a", "b", "c"} {
		item := impl.Item{Kind: impl.ItConst, Type: impl.TyInt, Value: int(name[0]-'a') + 1, Name: name}
		written = append(written, string(writtenInterface(impl.Interface{Module: strings.ToUpper(name), Items: []impl.Item{item}})))
	}
	var got []string
	for _, e := range entries {
		got = append(got, e.Module, e.Faces)
	}
	if !slices.Equal(got, []string{"C", "", "B", "", "A", written[1], "M", written[2] + written[0]}) {
		t.Errorf("faces: %q", got)
	}
}

// Each field of an entry is changed, with the sum that it had, and with its own.
func TestEntriesWithOneChange(t *testing.T) {
	count := map[bool]int{}
	m := keptEntries(t)[1]
	change := func(e impl.Entry, want bool) {
		t.Helper()
		if e != m && wantEntry(t, e) {
			t.Errorf("right without its sum: %.300v", e)
		}
		if got := wantEntry(t, summed(e)); got != want {
			t.Errorf("right %v with its sum: %.300v", got, e)
		}
		count[want]++
	}
	change(m, true)
	for _, text := range []string{"", "A", "N", "m", "M ", " M", "MM", "END", "é", strings.Repeat("M", 40), strings.Repeat("M", 41), strings.Repeat("M", 65537)} {
		e := m
		e.Module = text
		change(e, false)
	}
	for _, text := range []string{"", "M", keptA, keptM + " ", " " + keptM, keptM[1:], "\xff", strings.Repeat("x", 3999), strings.Repeat("x", 4000)} {
		e := m
		e.Source = text
		change(e, true)
		e = m
		e.Faces = text
		change(e, true)
	}
	for _, length := range []int{4001, 65535, 65536, 65537, 1 << 20} {
		text := strings.Repeat("x", length)
		e := m
		e.Source = text
		change(e, false)
		e = m
		e.Faces = text
		change(e, length <= 65536)
		e = m
		e.Bytes = text
		change(e, false)
	}
	for _, text := range []string{"", "OO1", m.Bytes + "\x00", m.Bytes[1:], m.Bytes[:len(m.Bytes)-1], m.Bytes + m.Bytes, keptEntries(t)[0].Bytes, m.Source, m.Faces} {
		e := m
		e.Bytes = text
		change(e, false)
	}
	other := m
	other.Bytes = string(writtenObject(fullObject()))
	change(other, true)
	// What is moved from one text to the next is another sum.
	moved := m
	moved.Source, moved.Faces = m.Source+m.Faces[:1], m.Faces[1:]
	change(moved, true)
	if count[true] < 20 || count[false] < 25 {
		t.Error("so many are right, and are not:", count)
	}
}

func TestSumsOfEntries(t *testing.T) {
	m := keptEntries(t)[1]
	sum := m.Sum
	for _, other := range []int{0, 1, -1, sum + 1, sum - 1, -sum, sum + 1<<32, sum - 1<<32, sum ^ 1<<31, sum ^ 1<<40, math.MaxInt, math.MinInt} {
		m.Sum = other
		if impl.EntryOK(m) || wantEntry(t, m) {
			t.Error("right with the sum", other, "where it is", sum)
		}
	}
	if impl.EntryOK(impl.Entry{}) || wantEntry(t, summed(impl.Entry{})) || wantEntry(t, summed(impl.Entry{Module: "M"})) {
		t.Error("an entry of nothing is right")
	}
}

// Each byte that is kept is changed to each other one.
func TestDamagedBytesOfEntries(t *testing.T) {
	m := keptEntries(t)[1]
	for at := range len(m.Bytes) {
		for to := range 256 {
			b := []byte(m.Bytes)
			b[at] = byte(to)
			e := m
			e.Bytes = string(b)
			if right := impl.EntryOK(e); right != (e.Bytes == m.Bytes) {
				t.Fatalf("byte %d as %d: right %v", at, to, right)
			}
		}
	}
}

func TestSizesOfEntries(t *testing.T) {
	text := "MODULE M; BEGIN WRITE(1) END M."
	for _, c := range []struct {
		size int
		want bool
	}{{65535, true}, {65536, true}, {65537, false}, {65600, false}, {89000, false}} {
		e := entryOf(text, "", sizedObject(t, c.size))
		if wantEntry(t, e) != c.want {
			t.Error("bytes of an entry:", c)
		}
		built, entries := wantBuilt(t, filesOf(text), []impl.Entry{e}, "M")
		if built.Code != impl.OK || (len(built.Made) == 0) != c.want || (len(built.Image.Procs) == 5) != c.want || (entries[0] == e) != c.want || len(entries) != 1 {
			t.Errorf("%v: made %v, %d procedures", c, built.Made, len(built.Image.Procs))
		}
	}
}

// wantBuiltAgain builds with the entries, and asks for what is made anew.
func wantBuiltAgain(t *testing.T, files []impl.File, entries []impl.Entry, main, made string) []impl.Entry {
	t.Helper()
	clean, _ := wantClean(t, files, main)
	built, behind := wantBuilt(t, files, entries, main)
	if !sameButMade(built, clean) || strings.Join(built.Made, " ") != made {
		t.Errorf("%.900q: built again code %d, made %v, want %s", files, built.Code, built.Made, made)
	}
	return behind
}

// Promise 8: a change of a text alone makes that module alone; one that changes what is exported makes those that import it, too.
func TestBuildsBehindChanges(t *testing.T) {
	files := filesOf("MODULE M; IMPORT B, C; BEGIN WRITE(B.b); WRITE(C.c) END M.", "MODULE A; CONST a* = 1; END A.", "MODULE B; IMPORT A; CONST b* = 2; BEGIN WRITE(A.a) END B.", "MODULE C; IMPORT A; CONST c* = A.a; END C.", telling("D", "A"))
	_, first := wantClean(t, files, "M")
	for _, c := range []struct{ name, text, made string }{
		{"A", "MODULE A; CONST a* = 1; END A.", ""},
		{"A", "MODULE A; CONST a* = 1; END A. ", "A"},
		{"A", "MODULE A; (* *) CONST a* = 1; BEGIN WRITE(a) END A.", "A"},
		{"A", "MODULE A; CONST a* = 2 - 1; b = 3; VAR x: CHAR; PROCEDURE P(); END P; END A.", "A"},
		{"A", "MODULE A; CONST a* = 2; END A.", "A B C M"}, // as c is another one
		{"A", "MODULE A; CONST a* = 1; z* = 1; END A.", "A B C"},
		{"A", "MODULE A; CONST z* = 1; a* = 1; END A.", "A B C"},
		{"B", "MODULE B; IMPORT A; CONST b* = 2; END B.", "B"},
		{"B", "MODULE B; CONST b* = 2; END B.", "B"},
		{"B", "MODULE B; IMPORT C, A; CONST b* = A.a + C.c; END B.", "B"},
		{"B", "MODULE B; IMPORT A; CONST b* = 3; END B.", "B M"},
		{"B", "MODULE B; IMPORT A; CONST b* = 2; PROCEDURE P*(); END P; END B.", "B M"},
		{"C", "MODULE C; IMPORT A; CONST c* = 2 - A.a; END C.", "C"},
		{"C", "MODULE C; IMPORT B, A; CONST c* = B.b; END C.", "C M"},
		{"M", "MODULE M; IMPORT C, B; BEGIN WRITE(B.b); WRITE(C.c) END M.", "M"},
		{"M", "MODULE M; IMPORT B; BEGIN WRITE(B.b) END M.", "M"},
		{"M", "MODULE M; END M.", "M"},
		{"M", "MODULE M; IMPORT D; END M.", "D M"},
		{"D", "MODULE D; CONST d* = 1; END D.", ""},
	} {
		changed := withFile(files, c.name, c.text)
		behind := wantBuiltAgain(t, changed, first, "M", c.made)
		wantBuiltAgain(t, changed, behind, "M", "")
		// Back to what was, the same modules are made, but for those that are imported no more.
		back := wantBuiltAgain(t, files, behind, "M", strings.TrimPrefix(c.made, "D "))
		if !slices.Equal(back[:len(first)], first) {
			t.Errorf("%s: other entries behind the change that is taken back: %.900v", c.text, back)
		}
	}
	// What a build of another main one keeps is not lost.
	behind := wantBuiltAgain(t, files, first, "D", "D")
	wantBuiltAgain(t, files, behind, "M", "")
	wantBuiltAgain(t, files, behind, "D", "")
	wantBuiltAgain(t, files, behind, "B", "")
	_, only := wantClean(t, files, "B")
	wantBuiltAgain(t, files, only, "M", "C M")
}

// What an entry keeps is taken if it is of the same source and interfaces, and right; it may be anything that is right.
func TestEntriesThatAreTaken(t *testing.T) {
	files, kept := filesOf(keptA, keptM), keptEntries(t)
	wantBuiltAgain(t, files, kept, "M", "")
	wantBuiltAgain(t, files, kept, "A", "")
	o, _, _ := impl.Compile(treeOf(t, "MODULE M; BEGIN WRITE(77) END M."), nil)
	made := kept[1]
	made.Bytes = string(writtenObject(o))
	built, behind := wantBuilt(t, files, []impl.Entry{kept[0], summed(made)}, "M")
	r, _ := impl.Run(built.Image, nil, 100)
	if built.Code != impl.OK || len(built.Made) != 0 || toldBy(r) != "77" || behind[1] != summed(made) {
		t.Error("an object that is kept is not taken:", built)
	}
	built, behind = wantBuilt(t, files, []impl.Entry{kept[0], made}, "M")
	r, _ = impl.Run(built.Image, nil, 100)
	if toldBy(r) != "1 2" || !slices.Equal(built.Made, []string{"M"}) || !slices.Equal(behind, kept) {
		t.Error("an object of another sum is taken:", built)
	}
}

// An entry that is not taken has the one that is made in its place.
func TestEntriesThatAreNotTaken(t *testing.T) {
	files, kept := filesOf(keptA, keptM), keptEntries(t)
	a, m := kept[0], kept[1]
	for _, c := range []struct {
		name   string
		change func(e *impl.Entry)
	}{
		{"another Source", func(e *impl.Entry) { e.Source += " " }},
		{"no Source", func(e *impl.Entry) { e.Source = "" }},
		{"other Faces", func(e *impl.Entry) { e.Faces += "x" }},
		{"other Faces", func(e *impl.Entry) { e.Faces = string(writtenInterface(impl.Interface{Module: "A"})) }},
		{"Bytes of another module", func(e *impl.Entry) {
			e.Bytes = map[string]string{"A": m.Bytes, "M": a.Bytes}[e.Module]
		}},
		{"no Bytes", func(e *impl.Entry) { e.Bytes = "" }},
		{"more Bytes", func(e *impl.Entry) { e.Bytes += "\x00" }},
		{"fewer Bytes", func(e *impl.Entry) { e.Bytes = e.Bytes[1:] }},
		{"Bytes of what is not right", func(e *impl.Entry) {
			o, _ := readObjectByRule([]byte(e.Bytes))
			o.Print = -1
			e.Bytes = string(writtenObject(o))
		}},
	} {
		for at := range kept {
			list := slices.Clone(kept)
			c.change(&list[at])
			for range 2 {
				behind := wantBuiltAgain(t, files, list, "M", list[at].Module)
				if !slices.Equal(behind, kept) {
					t.Errorf("%s: entries %.900v", c.name, behind)
				}
				list[at] = summed(list[at])
			}
		}
	}
	for _, sum := range []int{0, -1, m.Sum + 1, m.Sum + 1<<32} {
		other := m
		other.Sum = sum
		if behind := wantBuiltAgain(t, files, []impl.Entry{a, other}, "M", "M"); !slices.Equal(behind, kept) {
			t.Errorf("another sum: %.900v", behind)
		}
	}
	// One of another name is none of it, even if all else is alike.
	other := m
	other.Module = "N"
	if behind := wantBuiltAgain(t, files, []impl.Entry{other, a}, "M", "M"); !slices.Equal(behind, []impl.Entry{other, a, m}) {
		t.Errorf("an entry of another name: %.900v", behind)
	}
}

// What is linked of entries that are made up is as right as what Link makes of it.
func TestEntriesThatAreNotLinked(t *testing.T) {
	files, kept := filesOf(keptA, keptM), keptEntries(t)
	object := func(at int) impl.Object {
		o, code := impl.ReadObject([]byte(kept[at].Bytes))
		if code != impl.OK {
			t.Fatal("code", code)
		}
		return o
	}
	for _, c := range []struct {
		at     int
		change func(o *impl.Object)
		code   int
		module string
	}{
		{0, func(o *impl.Object) { o.Print ^= 1 }, impl.ErrPrint, "M"},
		{1, func(o *impl.Object) { o.Needs[0].Print ^= 1 }, impl.ErrPrint, "M"},
		{1, func(o *impl.Object) { o.Print ^= 1 }, impl.OK, ""},
		{1, func(o *impl.Object) { o.Needs = append(o.Needs, impl.Need{Module: "X"}) }, impl.ErrNone, "X"},
		{1, func(o *impl.Object) { o.Needs = []impl.Need{{Module: "M", Print: o.Print}} }, impl.ErrCycle, "M"},
		{0, func(o *impl.Object) { o.Needs = []impl.Need{{Module: "A"}} }, impl.ErrCycle, "A"},
		{0, func(o *impl.Object) { o.Needs = []impl.Need{{Module: "M"}} }, impl.ErrCycle, "M"},
		{0, func(o *impl.Object) { o.Procs[0].Name = "G" }, impl.ErrName, "M"},
		{1, func(o *impl.Object) { o.Needs = nil }, impl.ErrName, "M"},
		{0, func(o *impl.Object) { o.Procs[0].Params, o.Procs[0].Cells = 1, 1 }, impl.ErrCount, "M"},
		{0, func(o *impl.Object) {
			for at := range 31 {
				o.Globals = append(o.Globals, impl.Global{Name: "g" + strconv.Itoa(at), Length: 100})
			}
		}, impl.ErrSize, "M"},
	} {
		o := copyObject(object(c.at))
		c.change(&o)
		list := slices.Clone(kept)
		list[c.at] = entryOf(kept[c.at].Source, kept[c.at].Faces, o)
		built, behind := wantBuilt(t, files, list, "M")
		if built.Code != c.code || built.Module != c.module || built.Place != 0 || len(built.Made) != 0 || !slices.Equal(behind, list) {
			t.Errorf("%v: code %d of %q, made %v", o, built.Code, built.Module, built.Made)
		}
	}
}

// Where there are several of one module, the first one counts, and gives way to what is made.
func TestEntriesOfOneModule(t *testing.T) {
	files, kept := filesOf(keptA, keptM), keptEntries(t)
	a, m := kept[0], kept[1]
	old, older := m, m
	old.Source, older.Source = "old", "older"
	old, older = summed(old), summed(older)
	for _, c := range []struct {
		list, want []impl.Entry
		made       string
	}{
		{[]impl.Entry{m, a, old}, []impl.Entry{m, a, old}, ""},
		{[]impl.Entry{old, a, m}, []impl.Entry{m, a, m}, "M"},
		{[]impl.Entry{old, older, a, m}, []impl.Entry{m, older, a, m}, "M"},
		{[]impl.Entry{a, a, older, older}, []impl.Entry{a, a, m, older}, "M"},
		{[]impl.Entry{{Module: "A"}, m, a}, []impl.Entry{a, m, a}, "A"},
		{[]impl.Entry{{Module: "M"}, {Module: "A"}, m, a}, []impl.Entry{m, a, m, a}, "A M"},
		{[]impl.Entry{{Module: "M"}, {Module: "M"}}, []impl.Entry{m, {Module: "M"}, a}, "A M"},
	} {
		if behind := wantBuiltAgain(t, files, c.list, "M", c.made); !slices.Equal(behind, c.want) {
			t.Errorf("entries %.900v, want %.900v", behind, c.want)
		}
	}
}

// An entry stands in the place of the one of its name, or behind the others.
func TestPlacesOfEntries(t *testing.T) {
	files := filesOf(telling("M", "C", "A", "B"), telling("A"), telling("B"), telling("C"))
	names := func(list []impl.Entry) string {
		var words []string
		for _, e := range list {
			words = append(words, e.Module)
			if impl.EntryOK(e) {
				words[len(words)-1] += "!"
			}
		}
		return strings.Join(words, " ")
	}
	for _, c := range []struct{ ahead, behind string }{
		{"", "C! A! B! M!"}, {"X", "X C! A! B! M!"}, {"A B C M", "A! B! C! M!"}, {"M C", "M! C! A! B!"}, {"X B Y", "X B! Y C! A! M!"}, {"M M A A", "M! M A! A C! B!"}, {"no_name B END C", "no_name B! END C! A! M!"},
	} {
		var list []impl.Entry
		for _, name := range strings.Fields(c.ahead) {
			list = append(list, impl.Entry{Module: name})
		}
		behind := wantBuiltAgain(t, files, list, "M", "C A B M")
		if names(behind) != c.behind {
			t.Errorf("entries %s, want %s", names(behind), c.behind)
		}
	}
	// What is of no file stays as it is, be it right or not.
	wild := impl.Entry{Module: "\xff", Source: strings.Repeat("x", 1<<20), Faces: "y", Bytes: "z", Sum: -5}
	right := entryOf("source", "faces", impl.Object{Module: "Z", Procs: []impl.Code{bodyCode(end())}})
	behind := wantBuiltAgain(t, files, []impl.Entry{wild, right, {}}, "M", "C A B M")
	if len(behind) != 7 || behind[0] != wild || behind[1] != right || behind[2] != (impl.Entry{}) {
		t.Errorf("entries of no file: %.300v", behind)
	}
}

// Behind a fault the entries are what they were, and what was made ahead of it.
func TestEntriesBehindAFault(t *testing.T) {
	files := filesOf("MODULE M; IMPORT A, B; BEGIN x := 1 END M.", telling("A"), telling("B", "C"), telling("C"))
	_, entries := wantClean(t, files, "A")
	built, behind := wantBuilt(t, files, append(entries, impl.Entry{Module: "B"}, impl.Entry{Module: "M"}), "M")
	if built.Code != impl.ErrName || built.Module != "M" || !slices.Equal(built.Made, []string{"C", "B"}) || len(behind) != 4 {
		t.Error("a fault at last:", built, behind)
	}
	if behind[0] != entries[0] || !impl.EntryOK(behind[1]) || behind[2] != (impl.Entry{Module: "M"}) || behind[3].Module != "C" || !impl.EntryOK(behind[3]) {
		t.Errorf("entries behind a fault: %.900v", behind)
	}
	wantBuiltAgain(t, withFile(files, "M", telling("M", "A", "B")), behind, "M", "M")
	// What is not linked is kept, too.
	wide := withFile(files, "M", "MODULE M; IMPORT A, B; VAR "+arraysOf(31)+"END M.")
	behind = wantBuiltAgain(t, wide, behind, "M", "M")
	if built, again := wantBuilt(t, wide, behind, "M"); built.Code != impl.ErrSize || built.Module != "M" || len(built.Made) != 0 || !slices.Equal(again, behind) {
		t.Error("built again behind a fault in linking:", built)
	}
}

func TestManyEntries(t *testing.T) {
	files := filesOf(telling("M", "A", "B"), telling("A"), telling("B"))
	many := func(many int) []impl.Entry {
		var list []impl.Entry
		for at := range many {
			list = append(list, impl.Entry{Module: "E" + strconv.Itoa(at), Sum: at})
		}
		return list
	}
	for _, c := range []struct{ many, code int }{{0, impl.OK}, {19, impl.OK}, {20, impl.OK}, {21, impl.ErrBad}, {23, impl.ErrBad}, {4096, impl.ErrBad}, {4097, impl.ErrLong}, {9999, impl.ErrLong}} {
		list := many(c.many)
		built, behind, code := impl.CachedBuild(files, list, "M")
		if code != c.code || code != impl.OK && (!reflect.DeepEqual(built, impl.Built{}) || behind != nil) {
			t.Errorf("%v: code %d", c, code)
		}
		if code == impl.OK {
			wantBuiltAgain(t, files, list, "M", "A B M")
			if len(behind) != c.many+3 || !slices.Equal(behind[:c.many], list) {
				t.Errorf("%v: %d entries behind it", c, len(behind))
			}
		}
	}
	// Such as are not right count as well, and those of one module.
	if _, _, code := impl.CachedBuild(files, make([]impl.Entry, 21), "M"); code != impl.ErrBad {
		t.Error("21 entries of nothing: code", code)
	}
	wantBuiltAgain(t, files, make([]impl.Entry, 20), "M", "A B M")
	for _, files := range [][]impl.File{make([]impl.File, 11), namedFiles("B", "A"), namedFiles("END")} {
		if built, behind, code := impl.CachedBuild(files, many(20), "M"); code != impl.ErrBad || !reflect.DeepEqual(built, impl.Built{}) || behind != nil {
			t.Error("files that are not right: code", code)
		}
	}
}

// Promise 8: entries of builds, each of whose bytes is damaged at one place at most, tell nothing of a build but what it makes.
func TestBuildsWithDamagedEntries(t *testing.T) {
	source := rand.New(rand.NewSource(31))
	files := filesOf(keptM, keptA)
	kept := keptEntries(t)
	for at := range kept {
		for place := range len(kept[at].Bytes) {
			list := slices.Clone(kept)
			b := []byte(list[at].Bytes)
			b[place] ^= byte(1 + source.Intn(255))
			list[at].Bytes = string(b)
			other := 1 - at
			made := list[at].Module
			if source.Intn(2) == 0 {
				b := []byte(list[other].Bytes)
				b[source.Intn(len(b))] ^= byte(1 + source.Intn(255))
				list[other].Bytes = string(b)
				made = "A M"
			}
			if behind := wantBuiltAgain(t, files, list, "M", made); !slices.Equal(behind, kept) {
				t.Fatalf("byte %d of %s: %.900v", place, list[at].Module, behind)
			}
		}
	}
}
