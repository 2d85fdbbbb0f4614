package tests

import (
	"maps"
	"math"
	"math/rand"
	"slices"
	"strconv"
	"strings"
	"testing"

	"loop.example/g00168/impl"
)

// site is a reading of acts of the tests' own.
type site struct {
	texts   map[string]string
	entries []impl.Entry
	builds  []impl.Built
	clean   []impl.Built // nothing where promise 8 promises nothing
	hits    map[string]int
}

func (s *site) files() []impl.File {
	var list []impl.File
	for _, name := range slices.Sorted(maps.Keys(s.texts)) {
		list = append(list, impl.File{Name: name, Text: s.texts[name]})
	}
	return list
}

func (s *site) do(act impl.BuildAct) {
	switch act.Kind {
	case 1:
		if _, there := s.texts[act.Name]; there || len(s.texts) < 10 {
			s.texts[act.Name] = act.Text
		}
	case 2:
		delete(s.texts, act.Name)
	case 3:
		honest := true
		for _, many := range s.hits {
			honest = honest && many < 2
		}
		clean, _ := impl.CleanBuild(s.files(), act.Name)
		if !honest {
			clean = impl.Built{}
		}
		built, entries := buildByRules(s.files(), s.entries, act.Name)
		s.builds, s.entries, s.clean = append(s.builds, built), entries, append(s.clean, clean)
		for _, module := range built.Made {
			s.hits[module] = 0
		}
	case 4:
		for at, e := range s.entries {
			if e.Module == act.Name && act.At >= 0 && act.At < len(e.Bytes) {
				to := string([]byte{byte(uint64(act.To) % 256)})
				s.entries[at].Bytes = e.Bytes[:act.At] + to + e.Bytes[act.At+1:]
				s.hits[act.Name]++
			}
		}
	}
}

func actsByRules(acts []impl.BuildAct) (*site, int) {
	s := &site{texts: map[string]string{}, hits: map[string]int{}}
	if len(acts) > 4096 {
		return s, impl.ErrLong
	}
	if len(acts) > 60 {
		return s, impl.ErrMany
	}
	for _, act := range acts {
		if act.Kind < 1 || act.Kind > 4 || !textFits(act.Name, "own") || len(act.Text) > 4000 {
			return s, impl.ErrBad
		}
	}
	for _, act := range acts {
		s.do(act)
	}
	return s, impl.OK
}

// wantActs holds RunBuilder against the tests' own reading, and its builds against clean ones.
func wantActs(t *testing.T, acts ...impl.BuildAct) ([]impl.File, []impl.Entry, []impl.Built) {
	t.Helper()
	before := slices.Clone(acts)
	files, entries, builds, code := impl.RunBuilder(acts)
	if !slices.Equal(acts, before) {
		t.Errorf("acts are changed: %.900v", before)
	}
	s, wantCode := actsByRules(acts)
	if code != wantCode || code != impl.OK && (files != nil || entries != nil || builds != nil) {
		t.Errorf("RunBuilder(%.900v): code %d, want %d; %.300v, %.300v, %.300v", acts, code, wantCode, files, entries, builds)
	}
	if !slices.Equal(files, s.files()) || !slices.Equal(entries, s.entries) || !slices.EqualFunc(builds, s.builds, sameBuilt) {
		t.Errorf("RunBuilder(%.1500v):\n%.900v\n%.900v\n%.900v\nwant\n%.900v\n%.900v\n%.900v", acts, files, entries, builds, s.files(), s.entries, s.builds)
	}
	if code == impl.OK && !impl.FilesOK(files) {
		t.Errorf("files that are not right: %.900v", files)
	}
	for at, clean := range s.clean {
		if clean.Code == 0 && clean.Image.Procs == nil {
			continue
		}
		if at >= len(builds) || !sameButMade(builds[at], clean) {
			t.Errorf("RunBuilder(%.1500v): build %d is not a clean one", acts, at)
		}
	}
	return files, entries, builds
}

func wantActsFault(t *testing.T, code int, acts ...impl.BuildAct) {
	t.Helper()
	wantActs(t, acts...)
	if _, _, _, got := impl.RunBuilder(acts); got != code {
		t.Errorf("RunBuilder(%.300v): code %d, want %d", acts, got, code)
	}
}

func write(name, text string) impl.BuildAct {
	return impl.BuildAct{Kind: impl.AcWrite, Name: name, Text: text}
}

// writeText writes a file of the name that stands second in it.
func writeText(text string) impl.BuildAct { return write(filesOf(text)[0].Name, text) }

func remove(name string) impl.BuildAct { return impl.BuildAct{Kind: impl.AcRemove, Name: name} }

func build(name string) impl.BuildAct { return impl.BuildAct{Kind: impl.AcBuild, Name: name} }

func damage(name string, at, to int) impl.BuildAct {
	return impl.BuildAct{Kind: impl.AcDamage, Name: name, At: at, To: to}
}

// shortBuilt is a build as a few words: what it makes, and its fault.
func shortBuilt(b impl.Built) string {
	text := strings.Join(b.Made, " ")
	if b.Code != impl.OK {
		text += " ! " + impl.CodeWord(b.Code) + " " + strconv.Itoa(b.Place) + " " + b.Module
	}
	return strings.TrimSpace(text)
}

// wantSession asks for each build of acts, as a few words.
func wantSession(t *testing.T, want []string, acts ...impl.BuildAct) ([]impl.File, []impl.Entry, []impl.Built) {
	t.Helper()
	files, entries, builds := wantActs(t, acts...)
	var got []string
	for _, b := range builds {
		got = append(got, shortBuilt(b))
	}
	if !slices.Equal(got, want) {
		t.Errorf("builds %q, want %q", got, want)
	}
	return files, entries, builds
}

func TestActsFromNothingOn(t *testing.T) {
	for _, acts := range [][]impl.BuildAct{nil, {}, {remove("A")}, {damage("A", 0, 0)}, {write("A", ""), remove("A")}, {remove("A"), remove("A")}} {
		files, entries, builds := wantActs(t, acts...)
		if len(files)+len(entries)+len(builds) != 0 {
			t.Error("something of nothing:", files, entries, builds)
		}
	}
	_, entries, _ := wantSession(t, []string{"! none 0 M", "! none 0 A"}, build("M"), build("A"))
	if entries != nil {
		t.Error("entries of nothing:", entries)
	}
	// Files rise, whenever they are written; the last text counts.
	files, _, _ := wantActs(t, write("M", "1"), write("a", "2"), write("B", "3"), write("BA", "4"), write("_", "5"), write("A", "6"), write("B", "7"), remove("a"), write("Z", "8"), remove("x"))
	if want := []impl.File{{Name: "A", Text: "6"}, {Name: "B", Text: "7"}, {Name: "BA", Text: "4"}, {Name: "M", Text: "1"}, {Name: "Z", Text: "8"}, {Name: "_", Text: "5"}}; !slices.Equal(files, want) {
		t.Error("files:", files)
	}
	// What an act has no use for tells nothing.
	wild := func(act impl.BuildAct) impl.BuildAct {
		act.At, act.To = math.MinInt, math.MaxInt
		if act.Kind != impl.AcWrite {
			act.Text = strings.Repeat("?", 4000)
		}
		return act
	}
	wantSession(t, []string{"M", "! none 0 M"}, wild(writeText(telling("M"))), wild(build("M")), wild(remove("M")), wild(build("M")), wild(damage("M", 0, 0)))
}

func TestManyActs(t *testing.T) {
	acts := func(many int) []impl.BuildAct {
		list := []impl.BuildAct{writeText(telling("M"))}
		for at := 1; at < many; at++ {
			list = append(list, []impl.BuildAct{build("M"), damage("M", at, at), writeText(telling("M") + strings.Repeat(" ", at%7)), remove("A")}[at%4])
		}
		return list
	}
	for _, c := range []struct{ many, code int }{{1, impl.OK}, {59, impl.OK}, {60, impl.OK}, {61, impl.ErrMany}, {62, impl.ErrMany}, {4096, impl.ErrMany}, {4097, impl.ErrLong}, {9000, impl.ErrLong}} {
		wantActsFault(t, c.code, acts(c.many)...)
		// How many there are comes ahead of whether they are right.
		wrong := acts(c.many)
		wrong[0].Kind = 0
		if c.code == impl.OK {
			c.code = impl.ErrBad
		}
		wantActsFault(t, c.code, wrong...)
	}
}

func TestActsThatAreNotRight(t *testing.T) {
	right := []impl.BuildAct{writeText(telling("A")), build("A"), damage("A", 3, 3), build("A"), remove("A")}
	var wrong []impl.BuildAct
	for _, kind := range []int{0, 5, 6, -1, 256, 257, math.MaxInt, math.MinInt, 1<<32 + 1} {
		wrong = append(wrong, impl.BuildAct{Kind: kind, Name: "M"})
	}
	for kind := 1; kind <= 4; kind++ {
		for _, name := range append(strings.Fields(documentKeys), "", " ", "1", "A.B", "a b", "é", "M\x00", strings.Repeat("N", 41), strings.Repeat("N", 1<<20)) {
			wrong = append(wrong, impl.BuildAct{Kind: kind, Name: name})
		}
		for _, length := range []int{4001, 65536, 65537, 1 << 20} {
			wrong = append(wrong, impl.BuildAct{Kind: kind, Name: "M", Text: strings.Repeat(" ", length)})
		}
	}
	for _, act := range wrong {
		wantActsFault(t, impl.ErrBad, act)
		wantActsFault(t, impl.ErrBad, append(slices.Clone(right), act)...)
		wantActsFault(t, impl.ErrBad, append([]impl.BuildAct{act}, right...)...)
		wantActsFault(t, impl.ErrBad, slices.Insert(slices.Clone(right), 2, act)...)
	}
	for kind := 1; kind <= 4; kind++ {
		for _, name := range []string{"M", "End", "_", strings.Repeat("N", 40)} {
			wantActsFault(t, impl.OK, append(slices.Clone(right), impl.BuildAct{Kind: kind, Name: name, Text: strings.Repeat(" ", 4000)})...)
		}
	}
}

func TestWritesBeyondMaxFiles(t *testing.T) {
	var acts []impl.BuildAct
	for at := range 10 {
		acts = append(acts, writeText(telling(string(rune('J'-at)))))
	}
	names := func(files []impl.File) string {
		text := ""
		for _, f := range files {
			text += f.Name
		}
		return text
	}
	for _, c := range []struct {
		acts  []impl.BuildAct
		files string
		want  []string
	}{
		{nil, "ABCDEFGHIJ", nil},
		{[]impl.BuildAct{writeText(telling("K")), build("K"), build("J")}, "ABCDEFGHIJ", []string{"! none 0 K", "J"}},
		{[]impl.BuildAct{writeText(telling("_")), writeText(telling("AA")), build("AA")}, "ABCDEFGHIJ", []string{"! none 0 AA"}},
		{[]impl.BuildAct{writeText(telling("J", "A")), build("J")}, "ABCDEFGHIJ", []string{"A J"}},
		{[]impl.BuildAct{writeText(telling("A", "J")), build("A")}, "ABCDEFGHIJ", []string{"J A"}},
		{[]impl.BuildAct{remove("K"), writeText(telling("K")), build("K")}, "ABCDEFGHIJ", []string{"! none 0 K"}},
		{[]impl.BuildAct{remove("C"), writeText(telling("K", "A")), build("K"), writeText(telling("L")), build("L")}, "ABDEFGHIJK", []string{"A K", "! none 0 L"}},
		{[]impl.BuildAct{remove("J"), remove("A"), writeText(telling("L")), writeText(telling("K", "L")), writeText(telling("N")), build("K"), build("A")}, "BCDEFGHIKL", []string{"L K", "! none 0 A"}},
	} {
		files, _, _ := wantSession(t, c.want, append(slices.Clone(acts), c.acts...)...)
		if names(files) != c.files {
			t.Errorf("files %s, want %s", names(files), c.files)
		}
	}
	files, _, _ := wantActs(t, acts[1:]...)
	if names(files) != "ABCDEFGHI" {
		t.Error("nine files:", names(files))
	}
}

// Promise 8: each build is a clean one, and a change of a text alone makes that module alone.
func TestSessionsOfBuilds(t *testing.T) {
	a, b, m := "MODULE A; CONST k* = 1; BEGIN WRITE(k) END A.", "MODULE B; IMPORT A; CONST b* = 5; BEGIN WRITE(A.k) END B.", "MODULE M; IMPORT B, A; BEGIN WRITE(A.k + B.b) END M."
	wantSession(t, []string{"A B M", "", "A", "B", "M", "A B M", "", "A", "", "B M", "A M", ""},
		writeText(a), writeText(b), writeText(m), build("M"), build("M"),
		writeText(a+" "), build("M"), writeText(b+"\n"), build("M"), writeText(m+"(* *)"), build("M"),
		writeText(strings.Replace(a, "1", "2", 1)), build("M"), build("M"),
		writeText("MODULE A; CONST k* = 2; l = 3; END A."), build("A"), build("M"),
		writeText(strings.Replace(b, "5", "6", 1)), build("M"),
		writeText("MODULE A; VAR k*: INTEGER; END A."), writeText("MODULE B; CONST b* = 6; END B."), writeText("MODULE M; IMPORT A; END M."), build("M"), build("M"))
	// A file that is removed is missed; written again as it was, it is still kept.
	wantSession(t, []string{"A B M", "! none 0 A", "! none 0 A", "", "! none 0 M", "B", "! name 3 B", "", "! none 0 A"},
		writeText(a), writeText(b), writeText(m), build("M"), remove("A"), build("M"), build("A"), writeText(a), build("M"), remove("M"), build("M"),
		write("B", "MODULE B; END B."), build("B"), write("B", "MODULE B; BEGIN x := 1 END B."), build("B"), remove("B"), build("A"), remove("A"), build("A"))
}

func TestSessionsWithAnotherMain(t *testing.T) {
	wantSession(t, []string{"A", "M", "N", "", "", "! none 0 B"},
		writeText(telling("A")), writeText(telling("M", "A")), writeText(telling("N", "A")), build("A"), build("M"), build("N"), build("M"), build("A"), build("B"))
}

// Behind a fault, what was made ahead of it is kept.
func TestSessionsWithFaults(t *testing.T) {
	a, m := telling("A"), telling("M", "A", "B")
	wantSession(t, []string{"A ! none 0 B", "! none 0 B", "! syntax 0 B", "! name 0 B", "! name 3 B", "! cycle 0 M", "! cycle 0 B", "B M", "A", "! syntax 0 A", "", "A M ! size 0 M", "! size 0 M", "M"},
		writeText(a), writeText(m), build("M"), build("M"),
		write("B", ""), build("M"), write("B", "MODULE C; END C."), build("M"), write("B", "MODULE B; BEGIN x := 1 END B."), build("M"),
		writeText(telling("B", "M")), build("M"), writeText(telling("B", "A", "B")), build("M"), writeText(telling("B")), build("M"),
		writeText(a+" "), build("M"), write("A", "?"), build("M"), writeText(a+" "), build("M"),
		writeText("MODULE A; VAR v*: CHAR; END A."), writeText("MODULE M; IMPORT A, B; VAR "+arraysOf(30)+"END M."), build("M"), build("M"), writeText("MODULE M; IMPORT A, B; VAR "+arraysOf(29)+"END M."), build("M"))
}

func TestDamage(t *testing.T) {
	a, m := telling("A"), telling("M", "A")
	_, entries, _ := wantSession(t, []string{"A M"}, writeText(a), writeText(m), build("M"))
	bytes := entries[1].Bytes
	last := len(bytes) - 1
	for _, c := range []struct {
		module string
		at, to int
		now    int // what stands there then, of M; -1 if all is as it was
		made   string
	}{
		{"M", 0, 0, 0, "M"}, {"M", 0, 'O', -1, ""}, {"M", 0, 'O' + 256, -1, ""}, {"M", 0, 'O' - 256, -1, ""}, {"M", 0, 'o', 'o', "M"},
		{"M", 3, 255, 255, "M"}, {"M", 3, 256, 0, "M"}, {"M", 3, 257, -1, ""}, {"M", 3, -1, 255, "M"}, {"M", 3, -255, -1, ""}, {"M", 3, -256, 0, "M"}, {"M", 3, -2, 254, "M"}, {"M", 3, 1 << 40, 0, "M"}, {"M", 3, 1<<40 + 5, 5, "M"},
		{"M", 3, math.MaxInt, 255, "M"}, {"M", 3, math.MinInt, 0, "M"}, {"M", 3, math.MinInt + 7, 7, "M"},
		{"M", last, int(bytes[last]) + 1, int(bytes[last]) + 1, "M"}, {"M", last, int(bytes[last]), -1, ""}, {"M", last - 1, 77, 77, "M"}, {"M", last / 2, int(bytes[last/2] ^ 1), int(bytes[last/2] ^ 1), "M"},
		{"M", -1, 1, -1, ""}, {"M", last + 1, 1, -1, ""}, {"M", last + 2, 1, -1, ""}, {"M", -last, 1, -1, ""}, {"M", math.MaxInt, 1, -1, ""}, {"M", math.MinInt, 1, -1, ""}, {"M", 1 << 32, 1, -1, ""},
		{"A", 4, 0, -1, "A"}, {"A", 5, 0, -1, ""}, {"A", -1, 0, -1, ""}, {"B", 5, 0, -1, ""}, {"m", 5, 0, -1, ""}, {"X", 5, 0, -1, ""}, {"MM", 0, 0, -1, ""},
	} {
		_, entries, _ := wantSession(t, []string{"A M"}, writeText(a), writeText(m), build("M"), damage(c.module, c.at, c.to))
		want := []byte(bytes)
		if c.now >= 0 {
			want[c.at] = byte(c.now)
		}
		if entries[1].Bytes != string(want) || impl.EntryOK(entries[1]) != (c.now < 0) || impl.EntryOK(entries[0]) != (c.made != "A") {
			t.Errorf("%v: bytes %q, want %q", c, entries[1].Bytes, want)
		}
		_, entries, _ = wantSession(t, []string{"A M", c.made, ""}, writeText(a), writeText(m), build("M"), damage(c.module, c.at, c.to), build("M"), build("M"))
		if entries[1].Bytes != bytes || len(entries) != 2 || !impl.EntryOK(entries[0]) || !impl.EntryOK(entries[1]) {
			t.Errorf("%v: entries built again %.300v", c, entries)
		}
	}
}

func TestDamageAmongOtherActs(t *testing.T) {
	a, m := telling("A"), telling("M", "A")
	ahead := []impl.BuildAct{writeText(a), writeText(m)}
	session := func(want []string, acts ...impl.BuildAct) {
		t.Helper()
		wantSession(t, want, append(slices.Clone(ahead), acts...)...)
	}
	session([]string{"A M", ""}, damage("M", 0, 0), damage("A", 0, 0), build("M"), build("M")) // there is nothing yet
	session([]string{"A", "M", ""}, build("A"), damage("M", 0, 0), build("M"), build("M"))
	session([]string{"A M", "A M", ""}, build("M"), damage("M", 9, 0), damage("A", 9, 255), build("M"), build("M"))
	session([]string{"A M", "", "M", ""}, build("M"), damage("M", 9, 200), build("A"), build("M"), build("M"))
	session([]string{"A M", "M", "M", "M"}, build("M"), damage("M", 9, 200), build("M"), damage("M", 9, 200), build("M"), damage("M", 10, 200), build("M"))
	// The entry of a file that is removed is damaged as well.
	session([]string{"A M", "! none 0 M", "M", ""}, build("M"), remove("M"), damage("M", 9, 200), build("M"), writeText(m), build("M"), build("M"))
	session([]string{"A M", "! none 0 A", "A"}, build("M"), remove("A"), damage("A", 9, 200), build("M"), writeText(a), build("M"))
	// What is damaged is made anew behind a change, and stays damaged where the build ends ahead of it.
	session([]string{"A M", "M"}, build("M"), damage("M", 9, 200), writeText(m+" "), build("M"))
	session([]string{"A M", "! syntax 0 A", "M"}, build("M"), damage("M", 9, 200), write("A", "?"), build("M"), writeText(a), build("M"))
	// Damage that is taken back is none.
	_, entries, _ := wantActs(t, append(slices.Clone(ahead), build("M"))...)
	session([]string{"A M", ""}, build("M"), damage("M", 9, 200), damage("M", 9, int(entries[1].Bytes[9])), build("M"))
	session([]string{"A M", "M"}, build("M"), damage("M", 9, 200), damage("M", 8, 200), damage("M", 7, 200), build("M"))
}

// Acts may come to keep more entries than a build with entries takes.
func TestActsThatKeepManyEntries(t *testing.T) {
	var acts []impl.BuildAct
	var want []string
	for round := range 3 {
		var names []string
		for at := range 8 {
			names = append(names, string(rune('A'+8*round+at)))
			acts = append(acts, writeText(telling(names[at])))
		}
		acts = append(acts, writeText(telling("M_", names...)), build("M_"))
		want = append(want, strings.Join(names, " ")+" M_")
		if round < 2 {
			for _, name := range names {
				acts = append(acts, remove(name))
			}
		}
	}
	acts = append(acts, build("M_"), damage("X", 4, 0), build("M_"), damage("A", 4, 0), build("X"), build("A"))
	want = append(want, "", "X", "", "! none 0 A")
	_, entries, _ := wantSession(t, want, acts...)
	if len(acts) > impl.MaxActs || len(entries) != 25 || impl.EntryOK(entries[0]) || !impl.EntryOK(entries[24]) {
		t.Errorf("%d acts keep %d entries", len(acts), len(entries))
	}
}

// moduleText makes a module up that imports others of the names, and mostly checks with them.
func moduleText(source *rand.Rand, name string, names []string) string {
	text := "MODULE " + name + ";"
	var imports []string
	for _, other := range names {
		if (other > name || source.Intn(30) == 0) && source.Intn(5) < 2 {
			imports = append(imports, other)
		}
	}
	source.Shuffle(len(imports), func(i, k int) { imports[i], imports[k] = imports[k], imports[i] })
	if len(imports) > 0 {
		text += " IMPORT " + strings.Join(imports, ", ") + ";"
	}
	text += " CONST k* = " + strconv.Itoa(source.Intn(3)) + "; own = " + strconv.Itoa(source.Intn(3)) + ";"
	if len(imports) > 0 && source.Intn(3) == 0 {
		text += " z* = " + imports[0] + ".k;"
	}
	text += " VAR v*: INTEGER; PROCEDURE F*(n: INTEGER): INTEGER; BEGIN v := v + n; RETURN v + own END F; BEGIN WRITE(k)"
	for _, other := range imports {
		text += []string{"; WRITE(" + other + ".k)", "; WRITE(" + other + ".F(own))", "; v := " + other + ".v", "; WRITE(" + other + ".z)"}[source.Intn(4)]
	}
	switch source.Intn(25) {
	case 0:
		text += " ?"
	case 1:
		text += "; x := 1"
	case 2:
		return strings.Replace(text, name, "other", 1) + " END other."
	}
	return text + " END " + name + "." + strings.Repeat(" ", source.Intn(2))
}

// randomActs write modules of a few names, build them, and damage what is kept.
func randomActs(source *rand.Rand) []impl.BuildAct {
	names := []string{"A", "B", "C", "D", "E", "M"}[:2+source.Intn(5)]
	some := func() string { return names[source.Intn(len(names))] }
	written := map[string]string{}
	var acts []impl.BuildAct
	add := func(name string) {
		written[name] = moduleText(source, name, names)
		acts = append(acts, write(name, written[name]))
	}
	for _, name := range names {
		add(name)
	}
	for many := source.Intn(61 - len(acts)); many > 0; many-- {
		name := some()
		switch source.Intn(12) {
		case 0:
			add(name)
		case 1:
			written[name] += " "
			acts = append(acts, write(name, written[name]))
		case 2:
			acts = append(acts, write(name, written[name]))
		case 3:
			if source.Intn(3) == 0 {
				acts = append(acts, remove(name))
			}
		case 4, 5:
			acts = append(acts, damage(name, source.Intn(300)-3, source.Intn(600)-200))
		default:
			acts = append(acts, build(names[source.Intn(1+source.Intn(len(names)))]))
		}
	}
	return acts
}

// Promise 8, of acts that are made up.
func TestRandomActs(t *testing.T) {
	source := rand.New(rand.NewSource(32))
	codes := map[int]int{}
	made := map[int]int{}
	for range 700 {
		_, _, builds := wantActs(t, randomActs(source)...)
		for _, b := range builds {
			codes[b.Code]++
			made[len(b.Made)]++
		}
		if t.Failed() {
			return
		}
	}
	for _, code := range []int{impl.OK, impl.ErrNone, impl.ErrCycle, impl.ErrName, impl.ErrSyntax} {
		if codes[code] < 100 {
			t.Error("so many builds have these codes:", codes)
		}
	}
	for many := range 5 {
		if made[many] < 20 {
			t.Error("so many builds make so many:", made)
		}
	}
}

// Promise 8, of modules that are made up: what is kept is as good as what is made, and the builds run alike.
func TestRandomModulesAreBuilt(t *testing.T) {
	source := rand.New(rand.NewSource(33))
	whole := 0
	for range 400 {
		m, code := impl.Print(checkedModule(source))
		b := checkedModule(source)
		b.Name, b.Kids = "B", b.Kids[1:]
		other, otherCode := impl.Print(b)
		if code != impl.OK || otherCode != impl.OK || len(m) > 4000 || len(other) > 4000 {
			continue
		}
		files := filesOf(moduleA, other, m)
		built, entries := wantClean(t, files, "M")
		if built.Code != impl.OK {
			continue
		}
		whole++
		at := source.Intn(3)
		changed := withFile(files, files[at].Name, files[at].Text+"(* *)")
		if len(changed[at].Text) <= 4000 {
			wantBuiltAgain(t, changed, entries, "M", files[at].Name)
		}
		list := sourcesOf(t, files[0].Text, files[1].Text, files[2].Text)
		input := []int{source.Intn(200), source.Intn(200), source.Intn(200)}
		run, ran := impl.Run(built.Image, input, impl.MaxFuel)
		r, evaluated := impl.Evaluate(list, "M", input, impl.MaxFuel)
		if ran != impl.OK || evaluated != impl.OK || run.End != impl.EnFuel && r.End != impl.EnFuel && (run.End != r.End || run.Trap != r.Trap || !slices.Equal(run.Out, r.Out)) {
			t.Errorf("%.900v: run %v, evaluated %v", files, run, r)
		}
		if t.Failed() {
			return
		}
	}
	if whole < 100 {
		t.Error("too few are built:", whole)
	}
}
