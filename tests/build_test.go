package tests

import (
	"reflect"
	"slices"
	"strconv"
	"strings"
	"testing"

	"loop.example/g00168/impl"
)

// yard is a reading of building of the tests' own: what is built stands in lists, one behind the other.
type yard struct {
	files   []impl.File
	entries []impl.Entry
	faces   []impl.Interface
	objects []impl.Object
	made    []string
}

// cause is why a build ends ahead of its end.
type cause struct {
	code, place int
	module      string
}

func (y *yard) must(holds bool, code, place int, module string) {
	if !holds {
		panic(cause{code, place, module})
	}
}

// module builds one; the path tells which ones are being built.
func (y *yard) module(path []string, name string) {
	if slices.ContainsFunc(y.faces, func(x impl.Interface) bool { return x.Module == name }) {
		return
	}
	y.must(!slices.Contains(path, name), impl.ErrCycle, 0, name)
	at := slices.IndexFunc(y.files, func(f impl.File) bool { return f.Name == name })
	y.must(at >= 0, impl.ErrNone, 0, name)
	tree, code, place := impl.Parse(y.files[at].Text)
	y.must(code == impl.OK, code, place, name)
	y.must(tree.Name == name, impl.ErrName, 0, name)
	for _, other := range importsOf(tree) {
		y.module(append(slices.Clone(path), name), other)
	}
	items, wrong := checkByRules(tree, y.faces)
	y.must(wrong.code == impl.OK, wrong.code, wrong.place, name)
	y.must(len(items) <= 60, impl.ErrMany, 0, name)
	e := impl.Entry{Module: name, Source: y.files[at].Text, Faces: facesByRule(importsOf(tree), y.faces)}
	y.objects = append(y.objects, y.object(e, tree))
	y.faces = append(y.faces, impl.Interface{Module: name, Items: items})
}

func facesByRule(modules []string, faces []impl.Interface) string {
	var b strings.Builder
	for _, module := range modules {
		for _, x := range faces {
			if x.Module == module {
				b.Write(writtenInterface(x))
			}
		}
	}
	return b.String()
}

func (y *yard) object(e impl.Entry, tree impl.Node) impl.Object {
	at := slices.IndexFunc(y.entries, func(other impl.Entry) bool { return other.Module == e.Module })
	if at >= 0 {
		there := y.entries[at]
		if o, ok := entryByRule(there); ok && there.Source == e.Source && there.Faces == e.Faces {
			return o
		}
	}
	o := codeByRules(tree, y.faces)
	b := writtenObject(o)
	y.must(rightObject(o) && len(b) <= 65536, impl.ErrSize, 0, e.Module)
	y.made = append(y.made, e.Module)
	e.Bytes = string(b)
	e.Sum = sumByRule(e)
	if at < 0 {
		y.entries = append(y.entries, e)
	} else {
		y.entries[at] = e
	}
	return o
}

// buildByRules is a build of files that are right.
func buildByRules(files []impl.File, cache []impl.Entry, main string) (built impl.Built, entries []impl.Entry) {
	y := &yard{files: files, entries: slices.Clone(cache)}
	defer func() {
		at, ok := recover().(cause)
		if ok {
			built = impl.Built{Code: at.code, Place: at.place, Module: at.module}
		}
		built.Made, entries = y.made, y.entries
	}()
	y.module(nil, main)
	x, module, code := linkByRules(y.objects, main)
	y.must(code == impl.OK, code, 0, module)
	return impl.Built{Image: x}, nil
}

// copyBuilt has lists of its own, and nil for those that are empty.
func copyBuilt(b impl.Built) impl.Built {
	b.Image = copyImage(b.Image)
	b.Made = append([]string(nil), b.Made...)
	return b
}

func sameBuilt(a, b impl.Built) bool { return reflect.DeepEqual(copyBuilt(a), copyBuilt(b)) }

// sameButMade is what promise 8 asks of two builds.
func sameButMade(a, b impl.Built) bool {
	a.Made, b.Made = nil, nil
	return sameBuilt(a, b)
}

// wantBuilt holds CachedBuild against the tests' own reading, and answers the build and the entries behind it.
func wantBuilt(t *testing.T, files []impl.File, cache []impl.Entry, main string) (impl.Built, []impl.Entry) {
	t.Helper()
	filesBefore, cacheBefore := slices.Clone(files), slices.Clone(cache)
	built, entries, code := impl.CachedBuild(files, cache, main)
	want, wantEntries := buildByRules(files, cache, main)
	if code != impl.OK || !sameBuilt(built, want) || !slices.Equal(entries, wantEntries) {
		t.Errorf("CachedBuild(%.900v, %.900v, %q): code %d, %.900v, want %.900v;\nentries %.900v, want %.900v", files, cache, main, code, built, want, entries, wantEntries)
	}
	if built.Code != impl.OK && !reflect.DeepEqual(built.Image, impl.Image{}) || built.Code == impl.OK && (built.Place != 0 || built.Module != "" || !impl.ImageOK(built.Image)) {
		t.Errorf("a build that is not as its code: %.900v", built)
	}
	if !slices.Equal(files, filesBefore) || !slices.Equal(cache, cacheBefore) {
		t.Error("an argument is changed:", files, cache)
	}
	return built, entries
}

// wantClean builds without entries, and then with those that it leaves, whatever the fault.
func wantClean(t *testing.T, files []impl.File, main string) (impl.Built, []impl.Entry) {
	t.Helper()
	built, entries := wantBuilt(t, files, nil, main)
	clean, code := impl.CleanBuild(files, main)
	if code != impl.OK || !sameBuilt(clean, built) {
		t.Errorf("CleanBuild(%.900q, %q): code %d, %.900v, want %.900v", files, main, code, clean, built)
	}
	again, same := wantBuilt(t, files, entries, main)
	if !sameButMade(again, built) || len(again.Made) != 0 || !slices.Equal(same, entries) {
		t.Errorf("built again: %.900v, want %.900v", again, built)
	}
	var modules []string
	for _, e := range entries {
		modules = append(modules, e.Module)
		if !impl.EntryOK(e) {
			t.Errorf("an entry that is not right: %.900v", e)
		}
	}
	if !slices.Equal(modules, built.Made) {
		t.Errorf("entries of %v where %v are made", modules, built.Made)
	}
	return built, entries
}

// filesOf has a file for each text, with the name that stands second in it.
func filesOf(texts ...string) []impl.File {
	var list []impl.File
	for _, text := range texts {
		list = append(list, impl.File{Name: strings.Trim(strings.Fields(text)[1], ";"), Text: text})
	}
	slices.SortFunc(list, func(a, b impl.File) int { return strings.Compare(a.Name, b.Name) })
	return list
}

// withFile has the text in the place of the one of its name.
func withFile(files []impl.File, name, text string) []impl.File {
	files = slices.DeleteFunc(slices.Clone(files), func(f impl.File) bool { return f.Name == name })
	files = append(files, impl.File{Name: name, Text: text})
	slices.SortFunc(files, func(a, b impl.File) int { return strings.Compare(a.Name, b.Name) })
	return files
}

// telling is a module that writes its name's first character, and imports.
func telling(name string, imports ...string) string {
	text := "MODULE " + name + "; "
	if len(imports) > 0 {
		text += "IMPORT " + strings.Join(imports, ", ") + "; "
	}
	return text + "BEGIN WRITE(\"" + name[:1] + "\") END " + name + "."
}

// wantMade asks for what a clean build makes, in its order, and for what it tells when it runs.
func wantMade(t *testing.T, files []impl.File, main, made, told string) {
	t.Helper()
	built, _ := wantClean(t, files, main)
	r, code := impl.Run(built.Image, []int{113}, impl.MaxFuel)
	if built.Code != impl.OK || strings.Join(built.Made, " ") != made || code != impl.OK || toldBy(r) != told {
		t.Errorf("%.900q: code %d of %q, made %v, told %q, want %s, %q", files, built.Code, built.Module, built.Made, toldBy(r), made, told)
	}
}

// wantUnbuilt asks for the fault of a clean build, and for what is made ahead of it.
func wantUnbuilt(t *testing.T, files []impl.File, main string, code, place int, module, made string) {
	t.Helper()
	built, _ := wantClean(t, files, main)
	if built.Code != code || built.Place != place || built.Module != module || strings.Join(built.Made, " ") != made {
		t.Errorf("%.900q, %s: code %d at %d of %q, made %v, want %d at %d of %q, %s", files, main, built.Code, built.Place, built.Module, built.Made, code, place, module, made)
	}
}

func TestConstantsOfTheBuilder(t *testing.T) {
	got := []int{impl.MaxFiles, impl.MaxActs, impl.AcWrite, impl.AcRemove, impl.AcBuild, impl.AcDamage}
	if !slices.Equal(got, []int{10, 60, 1, 2, 3, 4}) {
		t.Error("constants:", got)
	}
}

func wantFiles(t *testing.T, list []impl.File, want bool) {
	t.Helper()
	if impl.FilesOK(list) != want {
		t.Errorf("FilesOK(%.300q) is not %v", list, want)
	}
	built, entries, code := impl.CachedBuild(list, nil, "M")
	clean, cleanCode := impl.CleanBuild(list, "M")
	if (code == impl.OK) != want || cleanCode != code || !sameBuilt(built, clean) {
		t.Errorf("builds of %.300q: codes %d, %d", list, code, cleanCode)
	}
	if !want && (code != impl.ErrBad || !reflect.DeepEqual(built, impl.Built{}) || entries != nil) {
		t.Errorf("builds of %.300q: code %d, %.300v, %.300v", list, code, built, entries)
	}
}

// namedFiles has a file for each name.
func namedFiles(names ...string) []impl.File {
	var list []impl.File
	for _, name := range names {
		list = append(list, impl.File{Name: name, Text: "MODULE M; END M."})
	}
	return list
}

func TestNamesOfFiles(t *testing.T) {
	long := strings.Repeat("N", 40)
	for _, names := range [][]string{{}, {"M"}, {"A", "B"}, {"A", "M", "Z", "_", "a", "z"}, {"A", "AA", "AAA", "AB"}, {"A", "A0", "A9", "AZ", "A_", "Aa"}, {long}, {long[:39], long}, {long, "a"}, {"END0", "ENDS", "END_", "End", "end"}, {"_"}, {"B", "a"}} {
		wantFiles(t, namedFiles(names...), true)
	}
	for _, names := range [][]string{{"A", "A"}, {"B", "A"}, {"A", "B", "B"}, {"A", "C", "B"}, {"B", "A", "C"}, {"a", "B"}, {"_", "A"}, {"AA", "A"}, {"A", "B", "C", "C", "D"}, {"M", "N", "M"}, {"b", "a"},
		{""}, {"", "A"}, {long + "N"}, {"A", long + "N"}, {"A.B"}, {"A", "a b"}, {"1"}, {"9A", "B"}, {"A-"}, {"é"}, {"A\x00"}, {"A", "\xff"}, {" A"}, {"A\n"}, {"*"}} {
		wantFiles(t, namedFiles(names...), false)
	}
	for _, word := range strings.Fields(documentKeys) {
		wantFiles(t, namedFiles(word), false)
		wantFiles(t, namedFiles("A", word, "a"), false)
		wantFiles(t, namedFiles("A", word+"s", "a"), true)
	}
}

func TestManyFiles(t *testing.T) {
	for _, c := range []struct {
		many int
		want bool
	}{{0, true}, {1, true}, {9, true}, {10, true}, {11, false}, {12, false}, {26, false}} {
		var names []string
		for at := range c.many {
			names = append(names, string(rune('A'+at)))
		}
		wantFiles(t, namedFiles(names...), c.want)
	}
	wantFiles(t, make([]impl.File, 4096), false)
	for _, many := range []int{4097, 10000} {
		list := make([]impl.File, many)
		built, entries, code := impl.CachedBuild(list, nil, "M")
		clean, cleanCode := impl.CleanBuild(list, "M")
		if impl.FilesOK(list) || code != impl.ErrLong || cleanCode != impl.ErrLong || !reflect.DeepEqual(built, impl.Built{}) || !reflect.DeepEqual(clean, built) || entries != nil {
			t.Errorf("%d files: codes %d, %d", many, code, cleanCode)
		}
	}
}

func TestTextsOfFiles(t *testing.T) {
	for _, c := range []struct {
		length int
		want   bool
	}{{0, true}, {1, true}, {3999, true}, {4000, true}, {4001, false}, {65536, false}, {65537, false}, {1 << 20, false}} {
		text := strings.Repeat("x", c.length)
		wantFiles(t, []impl.File{{Name: "M", Text: text}}, c.want)
		wantFiles(t, []impl.File{{Name: "A"}, {Name: "M", Text: text}, {Name: "N"}}, c.want)
		wantFiles(t, []impl.File{{Name: "A"}, {Name: "M"}, {Name: "N", Text: text}}, c.want)
	}
	wantFiles(t, []impl.File{{Name: "M", Text: "\xff\x00(*"}}, true)
	// A text of as many bytes as there may be is built.
	whole := "MODULE M; BEGIN WRITE(1) END M."
	wantMade(t, filesOf(whole+strings.Repeat(" ", 4000-len(whole))), "M", "M", "1")
}

func TestMainOfABuild(t *testing.T) {
	files := filesOf("MODULE M; END M.")
	call := func(main string) int {
		t.Helper()
		built, entries, code := impl.CachedBuild(files, nil, main)
		clean, cleanCode := impl.CleanBuild(files, main)
		if cleanCode != code || !sameBuilt(built, clean) || code != impl.OK && (!reflect.DeepEqual(built, impl.Built{}) || entries != nil) {
			t.Errorf("main %.60q: codes %d, %d, %.300v", main, code, cleanCode, built)
		}
		return code
	}
	for _, main := range append(strings.Fields(documentKeys), "", " ", "M ", " M", "M.", "A.B", "1", "9M", "é", "M\x00", strings.Repeat("M", 41), strings.Repeat("M", 65536)) {
		if code := call(main); code != impl.ErrBad {
			t.Errorf("main %.60q: code %d", main, code)
		}
	}
	for _, main := range []string{strings.Repeat("M", 65537), strings.Repeat(" ", 1<<20)} {
		if code := call(main); code != impl.ErrLong {
			t.Errorf("main of %d bytes: code %d", len(main), code)
		}
	}
	for _, main := range []string{"A", "m", "MM", "_", "End", strings.Repeat("M", 40)} {
		if code := call(main); code != impl.OK {
			t.Errorf("main %.60q: code %d", main, code)
		}
		wantUnbuilt(t, files, main, impl.ErrNone, 0, main, "")
	}
	// What is too long comes ahead of all that is not right.
	for _, c := range []struct {
		files, entries, main, code int
	}{{4097, 0, 0, impl.ErrLong}, {4096, 4097, 0, impl.ErrLong}, {11, 21, 65537, impl.ErrLong}, {11, 4096, 65536, impl.ErrBad}, {4096, 21, 0, impl.ErrBad}} {
		built, entries, code := impl.CachedBuild(make([]impl.File, c.files), make([]impl.Entry, c.entries), strings.Repeat("M", c.main))
		if code != c.code || !reflect.DeepEqual(built, impl.Built{}) || entries != nil {
			t.Errorf("%v: code %d", c, code)
		}
	}
}

// Each module is built behind its imports, in their order, and once.
func TestOrderOfBuilds(t *testing.T) {
	for _, c := range []struct{ texts, made string }{
		{"M", "M"}, {"M A, A", "A M"}, {"M A B, A, B", "A B M"}, {"M B A, A, B", "B A M"}, {"M A, A B, B C, C", "C B A M"},
		{"M A B, A C, B C, C", "C A B M"}, {"M B A, A C, B C, C", "C B A M"}, {"M A B, A B, B", "B A M"}, {"M A B, A, B A", "A B M"},
		{"M D A, A B C, B, C, D C B", "C B D A M"}, {"M A, A, B A, C M, D", "A M"}, {"M Z, Z a, a _, _ A, A", "A _ a Z M"},
		{"M A B C D E F G H I, A, B A, C B A, D C B A, E D C, F E D, G F, H G, I H", "A B C D E F G H I M"},
		{"M I, A, B A, C B, D C, E D, F E, G F, H G, I H", "A B C D E F G H I M"},
	} {
		var texts []string
		told := ""
		for _, text := range strings.Split(c.texts, ", ") {
			words := strings.Fields(text)
			texts = append(texts, telling(words[0], words[1:]...))
		}
		for _, module := range strings.Fields(c.made) {
			told += " \"" + module + "\""
		}
		wantMade(t, filesOf(texts...), "M", c.made, strings.TrimSpace(told))
	}
	// Another main one has what it needs itself.
	files := filesOf(telling("M", "A"), telling("A", "B"), telling("B"), telling("N", "B", "M"))
	wantMade(t, files, "M", "B A M", "\"B\" \"A\" \"M\"")
	wantMade(t, files, "A", "B A", "\"B\" \"A\"")
	wantMade(t, files, "B", "B", "\"B\"")
	wantMade(t, files, "N", "B A M N", "\"B\" \"A\" \"M\" \"N\"")
}

// What stands in modules that are imported is used by those that import them.
func TestBuildsOfModulesWithImports(t *testing.T) {
	m := "MODULE M; IMPORT A, B; VAR i: INTEGER; c: CHAR; BEGIN i := 4; WRITE(A.F(i)); WRITE(i); A.G(); WRITE(A.v[1]); WRITE(A.k); A.S(c, FALSE); WRITE(c); B.P(i); WRITE(i) END M."
	b := "MODULE B; IMPORT A; PROCEDURE P*(VAR n: INTEGER); BEGIN n := n + A.k END P; BEGIN WRITE(A.x) END B."
	files := filesOf(m, b, moduleA)
	wantMade(t, files, "M", "A B M", "\"A\" 3 10 5 5 \"v\" -9 \"q\" -4")
	built, _ := wantClean(t, files, "M")
	if want := linkedTexts(t, moduleA, b, m); !sameImage(built.Image, want) {
		t.Errorf("another image: %.900v, want %.900v", built.Image, want)
	}
	wantMade(t, filesOf(moduleA), "A", "A", "\"A\"")
	// Sources that are built do what they do without being built.
	list := sourcesOf(t, moduleA, b, m)
	run, _ := impl.Run(built.Image, []int{113}, impl.MaxFuel)
	r := wantEvaluated(t, list, "M", []int{113}, impl.MaxFuel)
	if !slices.Equal(run.Out, r.Out) || run.End != r.End {
		t.Error("evaluated otherwise:", run, r)
	}
}

func TestFilesThatAreMissing(t *testing.T) {
	wantUnbuilt(t, nil, "M", impl.ErrNone, 0, "M", "")
	wantUnbuilt(t, filesOf(telling("A")), "M", impl.ErrNone, 0, "M", "")
	wantUnbuilt(t, filesOf(telling("A"), telling("N")), "M", impl.ErrNone, 0, "M", "")
	wantUnbuilt(t, filesOf(telling("M", "A")), "M", impl.ErrNone, 0, "A", "")
	wantUnbuilt(t, filesOf(telling("M", "A", "B"), telling("A")), "M", impl.ErrNone, 0, "B", "A")
	wantUnbuilt(t, filesOf(telling("M", "A", "B"), telling("B")), "M", impl.ErrNone, 0, "A", "")
	wantUnbuilt(t, filesOf(telling("M", "A"), telling("A", "B"), telling("B", "C", "X"), telling("C")), "M", impl.ErrNone, 0, "X", "C")
	wantUnbuilt(t, filesOf(telling("M", "m")), "M", impl.ErrNone, 0, "m", "")
}

func TestFilesWhoseImportsGoRound(t *testing.T) {
	wantUnbuilt(t, filesOf(telling("M", "M")), "M", impl.ErrCycle, 0, "M", "")
	wantUnbuilt(t, filesOf(telling("M", "A"), telling("A", "M")), "M", impl.ErrCycle, 0, "M", "")
	wantUnbuilt(t, filesOf(telling("M", "A"), telling("A", "M")), "A", impl.ErrCycle, 0, "A", "")
	wantUnbuilt(t, filesOf(telling("M", "A"), telling("A", "A")), "M", impl.ErrCycle, 0, "A", "")
	wantUnbuilt(t, filesOf(telling("M", "A"), telling("A", "B"), telling("B", "C"), telling("C", "A")), "M", impl.ErrCycle, 0, "A", "")
	wantUnbuilt(t, filesOf(telling("M", "A"), telling("A", "D", "B"), telling("B", "C"), telling("C", "B"), telling("D")), "M", impl.ErrCycle, 0, "B", "D")
	wantUnbuilt(t, filesOf(telling("M", "A", "M"), telling("A")), "M", impl.ErrCycle, 0, "M", "A")
	wantUnbuilt(t, filesOf(telling("M", "B"), telling("B", "A", "M"), telling("A", "C"), telling("C")), "M", impl.ErrCycle, 0, "M", "C A")
	// What is only needed twice does not go round.
	wantMade(t, filesOf(telling("M", "A", "B", "C"), telling("A", "C"), telling("B", "A", "C"), telling("C")), "M", "C A B M", "\"C\" \"A\" \"B\" \"M\"")
	wantMade(t, filesOf(telling("M", "A"), telling("A"), telling("B", "M", "B")), "M", "A M", "\"A\" \"M\"")
}

type faultyText struct {
	text        string
	code, place int
}

// exportingAs is a module of that name with so many exports.
func exportingAs(name string, consts, vars, procs int) string {
	return strings.NewReplacer(" M;", " "+name+";", "END M.", "END "+name+".").Replace(exporting(consts, vars, procs))
}

// faultyTexts are texts of a file X, with what a build says of them. They import nothing.
func faultyTexts() []faultyText {
	return []faultyText{
		{"", impl.ErrSyntax, 0},
		{"MODULE X; END X", impl.ErrSyntax, 15},
		{"MODULE X; BEGIN ? END X.", impl.ErrSyntax, 16},
		{"MODULE X; END Y.", impl.ErrName, 14},
		{"MODULE X; VAR v: ARRAY 0 OF CHAR; END X.", impl.ErrRange, 23},
		{"MODULE X; BEGIN WRITE(" + strings.Repeat("(", 21) + "1" + strings.Repeat(")", 21) + ") END X.", impl.ErrDeep, 42},
		{strings.Repeat(";", 1201), impl.ErrMany, 1200},
		{"MODULE X; BEGIN " + strings.Repeat("RETURN; ", 480) + " END X. x", impl.ErrSyntax, 16 + 480*8 + 8},
		{"MODULE X; VAR " + strings.Repeat("a,", 400) + "a: CHAR; END X.", impl.ErrSize, 0},
		{"MODULE Y; END Y.", impl.ErrName, 0},
		{"MODULE x; END x.", impl.ErrName, 0},
		{"MODULE Y; BEGIN x := 1 END Y.", impl.ErrName, 0},
		{"MODULE X; BEGIN x := 1 END X.", impl.ErrName, 3},
		{"MODULE X; CONST a* = 1 DIV 0; END X.", impl.ErrRange, 2},
		{"MODULE X; VAR a, a: CHAR; END X.", impl.ErrTwice, 3},
		{"MODULE X; BEGIN RETURN 1 END X.", impl.ErrResult, 2},
		{"MODULE X; BEGIN WRITE(Z.a) END X.", impl.ErrName, 3},
		{"MODULE X; BEGIN WRITE(X.a) END X.", impl.ErrName, 3},
		{exportingAs("X", 61, 0, 0), impl.ErrMany, 0},
		{exportingAs("X", 0, 61, 0), impl.ErrMany, 0},
		{exportingAs("X", 0, 0, 61), impl.ErrMany, 0},
		{exportingAs("X", 0, 0, 60), impl.ErrSize, 0},
		{exportingAs("X", 30, 30, 1), impl.ErrMany, 0},
		{strings.Replace(exportingAs("X", 61, 0, 0), "END X.", "BEGIN RETURN 1 END X.", 1), impl.ErrResult, 128},
		{manyVariables("X", 101), impl.ErrSize, 0},
		{"MODULE X; PROCEDURE P(); VAR " + arraysOf(20) + "b: CHAR; END P; END X.", impl.ErrSize, 0},
	}
}

// manyVariables is a module of so many variables.
func manyVariables(name string, many int) string {
	var names []string
	for at := range many {
		names = append(names, "v"+strconv.Itoa(at))
	}
	return "MODULE " + name + "; VAR " + strings.Join(names, ", ") + ": CHAR; END " + name + "."
}

// arraysOf gives so many arrays of a hundred each.
func arraysOf(many int) string {
	text := ""
	for at := range many {
		text += "a" + strconv.Itoa(at) + ": ARRAY 100 OF CHAR; "
	}
	return text
}

// A fault is told of the module whose it is, be it main, imported or further away.
func TestTextsThatAreNotBuilt(t *testing.T) {
	for _, c := range faultyTexts() {
		x := []impl.File{{Name: "X", Text: c.text}}
		wantUnbuilt(t, x, "X", c.code, c.place, "X", "")
		wantUnbuilt(t, withFile(x, "M", telling("M", "X")), "M", c.code, c.place, "X", "")
		wantUnbuilt(t, withFile(withFile(withFile(x, "A", telling("A")), "B", telling("B", "A", "X")), "M", telling("M", "B")), "M", c.code, c.place, "X", "A")
		// What is not needed is not looked at.
		wantMade(t, withFile(withFile(x, "M", telling("M", "A")), "A", telling("A")), "M", "A M", "\"A\" \"M\"")
	}
}

// The first one that is met counts: of a module ahead of its imports what its text says, behind them what it says with them.
func TestFirstFaultOfABuild(t *testing.T) {
	unparsed, other, unchecked := "MODULE A; END A", "MODULE B; END B.", "MODULE A; BEGIN x := 1 END A."
	a := func(text string) []impl.File { return []impl.File{{Name: "A", Text: text}} }
	for _, c := range []struct {
		a, m         string
		code, place  int
		module, made string
	}{
		{unparsed, "MODULE M; IMPORT A; BEGIN x := 1 END M", impl.ErrSyntax, 38, "M", ""},
		{unparsed, "MODULE N; IMPORT A; END N.", impl.ErrName, 0, "M", ""},
		{unparsed, "MODULE M; IMPORT A; BEGIN x := 1 END M.", impl.ErrSyntax, 15, "A", ""},
		{other, "MODULE M; IMPORT A; BEGIN x := 1 END M.", impl.ErrName, 0, "A", ""},
		{unchecked, "MODULE M; IMPORT A; BEGIN x := 1 END M.", impl.ErrName, 3, "A", ""},
		{unchecked, "MODULE M; IMPORT A, X; END M.", impl.ErrName, 3, "A", ""},
		{unchecked, "MODULE M; IMPORT X, A; END M.", impl.ErrNone, 0, "X", ""},
		{unchecked, "MODULE M; IMPORT A, M; END M.", impl.ErrName, 3, "A", ""},
		{unchecked, "MODULE M; IMPORT M, A; END M.", impl.ErrCycle, 0, "M", ""},
		{telling("A", "X"), "MODULE M; IMPORT A, M; END M.", impl.ErrNone, 0, "X", ""},
		{telling("A"), "MODULE M; IMPORT A, X; BEGIN x := 1 END M.", impl.ErrNone, 0, "X", "A"},
		{telling("A"), "MODULE M; IMPORT A, A; END M.", impl.ErrTwice, 2, "M", "A"},
		{telling("A"), "MODULE M; IMPORT A; BEGIN x := 1 END M.", impl.ErrName, 4, "M", "A"},
		{telling("A"), "MODULE M; IMPORT A; BEGIN A.P() END M.", impl.ErrName, 3, "M", "A"},
		{telling("A", "A"), "MODULE M; IMPORT A; BEGIN x := 1 END M.", impl.ErrCycle, 0, "A", ""},
		{exportingAs("A", 61, 0, 0), "MODULE M; IMPORT A; BEGIN x := 1 END M.", impl.ErrMany, 0, "A", ""},
		{manyVariables("A", 101), "MODULE M; IMPORT A; BEGIN x := 1 END M.", impl.ErrSize, 0, "A", ""},
	} {
		wantUnbuilt(t, withFile(a(c.a), "M", c.m), "M", c.code, c.place, c.module, c.made)
	}
	// What is built, but not imported, is not in sight.
	files := filesOf(telling("M", "A"), telling("A", "B"), "MODULE B; CONST k* = 1; END B.")
	wantMade(t, files, "M", "B A M", "\"A\" \"M\"")
	wantUnbuilt(t, withFile(files, "M", "MODULE M; IMPORT A; BEGIN WRITE(B.k) END M."), "M", impl.ErrName, 4, "M", "B A")
	wantUnbuilt(t, withFile(files, "M", "MODULE M; IMPORT A; BEGIN WRITE(A.k) END M."), "M", impl.ErrName, 4, "M", "B A")
}

func TestBuildsOfModulesWithManyExports(t *testing.T) {
	for _, c := range []struct{ consts, vars, procs, code int }{
		{60, 0, 0, impl.OK}, {0, 60, 0, impl.OK}, {0, 1, 59, impl.OK}, {20, 20, 20, impl.OK}, {61, 0, 0, impl.ErrMany}, {1, 1, 59, impl.ErrMany}, {2, 0, 59, impl.ErrMany}, {100, 0, 0, impl.ErrMany}, {1, 0, 60, impl.ErrMany}, {0, 0, 60, impl.ErrSize},
	} {
		files := filesOf(exportingAs("A", c.consts, c.vars, c.procs), "MODULE M; IMPORT A; BEGIN WRITE(1) END M.")
		if c.code == impl.OK {
			wantMade(t, files, "A", "A", "")
			wantMade(t, files, "M", "A M", "1")
		} else {
			wantUnbuilt(t, files, "A", c.code, 0, "A", "")
			wantUnbuilt(t, files, "M", c.code, 0, "A", "")
		}
	}
}

func TestSizesOfBuilds(t *testing.T) {
	wantMade(t, filesOf(manyVariables("M", 100)), "M", "M", "")
	wantMade(t, filesOf("MODULE M; PROCEDURE P(); VAR "+arraysOf(20)+"END P; END M."), "M", "M", "")
	deepest := func(many int) string {
		list := strings.Repeat("1, ", 19)
		return "MODULE M; PROCEDURE F(" + params(20) + ": INTEGER): INTEGER; BEGIN RETURN 7 END F; BEGIN WRITE(F(" + list + "F(" + list + "F(" + list + strings.Repeat("1 + (", many) + "1" + strings.Repeat(")", many) + ")))) END M."
	}
	wantMade(t, filesOf(deepest(2)), "M", "M", "7")
	wantUnbuilt(t, filesOf(deepest(3)), "M", impl.ErrSize, 0, "M", "")
	// All variables together have 3000 cells at most, which is asked at last, of main.
	thirty := func(name, more string) string {
		return "MODULE " + name + "; VAR " + arraysOf(15) + more + "END " + name + "."
	}
	for _, main := range []string{"M", "N"} {
		files := filesOf("MODULE "+main+"; IMPORT A, B; END "+main+".", thirty("A", ""), thirty("B", ""))
		wantMade(t, files, main, "A B "+main, "")
		wantUnbuilt(t, withFile(files, "B", thirty("B", "b: CHAR; ")), main, impl.ErrSize, 0, main, "A B "+main)
		wantUnbuilt(t, withFile(files, main, "MODULE "+main+"; IMPORT A, B; VAR b: CHAR; END "+main+"."), main, impl.ErrSize, 0, main, "A B "+main)
	}
}
