package tests

import (
	"math"
	"math/rand"
	"reflect"
	"slices"
	"strconv"
	"strings"
	"sync"
	"testing"
	"unsafe"

	"loop.example/g00168/impl"
)

var fragments = append(strings.Fields(documentKeys+" "+documentSigns),
	" ", " ", " ", "\n", "\t", "(*", "*)", "\"", "\"a\"", "\"é\"", "\"\xff\"", "0AX", "0D800X", "12", "007", "x", "_y1", "é", "?", "\xff", "\xe2\x82", "(**)",
	strings.Repeat("n", 39), "999999999999999999")

func randomText(source *rand.Rand, most int) string {
	var b strings.Builder
	for range source.Intn(most + 1) {
		switch source.Intn(8) {
		case 0:
			b.WriteByte(byte(source.Intn(256)))
		case 1:
			b.WriteRune(rune(source.Intn(0x110000)))
		default:
			b.WriteString(fragments[source.Intn(len(fragments))])
		}
	}
	return b.String()
}

// randomWords is a text of right tokens, with the tokens that it has.
func randomWords(source *rand.Rand, most int) (string, []impl.Token) {
	gaps := []string{" ", "\n", "\t\r", "(* a *)", "(*(*\xff*)é*)", "  "}
	texts := append(strings.Fields(documentKeys+" "+documentSigns), "a", "Zz_9", "7", "123456789", "00X", "0000022X", "\"b\"", "\"€\"")
	var b strings.Builder
	var list []impl.Token
	for range source.Intn(most + 1) {
		text := texts[source.Intn(len(texts))]
		one, _, _ := impl.Tokens(text)
		one[0].At = b.Len()
		list = append(list, one[0])
		b.WriteString(text)
		b.WriteString(gaps[source.Intn(len(gaps))])
	}
	return b.String(), list
}

// Promise 2: what any text has as tokens, written apart, has the same ones.
func TestTokensWrittenApartAreTheSame(t *testing.T) {
	source := rand.New(rand.NewSource(2))
	whole := 0
	for range 20000 {
		text := randomText(source, 12)
		list, code, place := impl.Tokens(text)
		if code != impl.OK {
			checkFault(t, text, code, place)
			continue
		}
		whole++
		var b strings.Builder
		for i := range list {
			list[i].At = b.Len()
			b.WriteString(tokenText(t, list[i]))
			b.WriteString(" ")
		}
		wantTokens(t, b.String(), list...)
	}
	if whole < 1000 {
		t.Error("too few of the texts have tokens:", whole)
	}
}

// checkFault asks that what stands ahead of a fault is right, and what begins with it is not.
func checkFault(t *testing.T, text string, code, place int) {
	t.Helper()
	if code != impl.ErrSyntax || place < 0 || place >= len(text) {
		t.Fatalf("Tokens(%q): code %d at %d", text, code, place)
	}
	if _, code, _ := impl.Tokens(text[:place]); code != impl.OK {
		t.Errorf("Tokens(%q): code %d ahead of the fault at %d", text, code, place)
	}
	wantFault(t, text[place:], impl.ErrSyntax, 0)
}

func TestRandomWords(t *testing.T) {
	source := rand.New(rand.NewSource(3))
	for range 2000 {
		text, list := randomWords(source, 200)
		wantTokens(t, text, list...)
	}
}

// answers is all that the calls of all chapters say to one text and one number, to the tree of the text, to its interface, to its object, to what that is linked to, and to the sources and files that it stands among.
type answers struct {
	word, chars          string
	of, code             int
	name, key, char      bool
	list                 []impl.Token
	tokens, at           int
	tree                 impl.Node
	parsed, wrong        int
	right                bool
	size, printed        int
	text                 string
	checked, faulty      int
	face, read           impl.Interface
	exports, form        int
	bytes                []byte
	written              int
	print, summed        int
	object, loaded       impl.Object
	compiled, compiledAt int
	unloaded             int
	kept                 []byte
	stored               int
	fits                 bool
	verified, verifiedAt int
	listing              string
	listed               int
	image                impl.Image
	missing              string
	linked               int
	starts               bool
	run, short           impl.Result
	ran, cut             int
	lines, odd           string
	told, oddly          int
	order                []string
	ordered              int
	sources              bool
	result, briefly      impl.Result
	evaluated, briefed   int
	built                builds
	console              sayings
}

// builds is what the calls of the eighth chapter say.
type builds struct {
	fit, right     bool
	clean, cached  impl.Built
	cleaned, saved int
	entries, kept  []impl.Entry
	files          []impl.File
	list           []impl.Built
	acted          int
}

// sayings is what the calls of the ninth chapter say.
type sayings struct {
	texts [7]string
	codes [7]int
}

func askConsole(text string, number int, run impl.Result, built impl.Built) sayings {
	var a sayings
	a.texts[0], a.codes[0] = impl.Console(text)
	a.texts[1], a.codes[1] = impl.Console("file M\n" + text + "\n.\nbuild M\nbuild M\nrun M 300 " + strconv.Itoa(number) + "\nremove M\n" + text)
	a.texts[2], a.codes[2] = impl.Console("build " + text + "\nrun " + text + " 9\nfile " + text + "\n" + text)
	a.texts[3], a.codes[3] = impl.EndText(impl.Result{End: number, Trap: len(text) % 7})
	a.texts[4], a.codes[4] = impl.EndText(run)
	a.texts[5], a.codes[5] = impl.BuiltText(impl.Built{Code: number, Place: number, Module: text, Made: []string{text, text}})
	a.texts[6], a.codes[6] = impl.BuiltText(built)
	return a
}

func askBuilder(text string, number int, main string) builds {
	var a builds
	files := withFile(filesOf(moduleA, "MODULE B; END B."), main, text)
	a.fit = impl.FilesOK(files)
	a.clean, a.cleaned = impl.CleanBuild(files, main)
	cache := []impl.Entry{{Module: main, Source: text, Bytes: text, Sum: number}, entryOf("", "", impl.Object{Module: "B", Procs: []impl.Code{bodyCode(end())}})}
	a.right = impl.EntryOK(cache[0])
	a.cached, a.entries, a.saved = impl.CachedBuild(files, cache, main)
	a.files, a.kept, a.list, a.acted = impl.RunBuilder([]impl.BuildAct{writeText(moduleA), writeText("MODULE B; END B."), write(main, text), build(main), damage(main, number, number), build(main), damage(main, 20, number), build(main)})
	return a
}

// someObjects are the modules of someImports, compiled.
func someObjects() []impl.Object {
	var list []impl.Object
	for _, text := range []string{"MODULE Other; END Other.", moduleA, "MODULE B; END B."} {
		tree, _, _ := impl.Parse(text)
		o, _, _ := impl.Compile(tree, nil)
		list = append(list, o)
	}
	return list
}

func ask(text string, number int) answers {
	var a answers
	a.name = impl.NameOK(text)
	a.word = impl.CodeWord(number)
	a.of = impl.CodeOf(text)
	a.key = impl.IsKey(text)
	a.char = impl.CharOK(number)
	a.list, a.tokens, a.at = impl.Tokens(text)
	a.chars, a.code = impl.CharText(number)
	a.tree, a.parsed, a.wrong = impl.Parse(text)
	a.right = impl.TreeOK(a.tree)
	a.size = impl.Size(a.tree)
	a.text, a.printed = impl.Print(a.tree)
	a.checked, a.faulty = impl.Check(a.tree, someImports())
	a.face, a.exports = impl.InterfaceOf(a.tree, someImports())
	a.read, a.form = impl.ReadInterface([]byte(text))
	a.bytes, a.written = impl.InterfaceBytes(a.face)
	a.print, a.summed = impl.PrintOf(a.read)
	a.object, a.compiled, a.compiledAt = impl.Compile(a.tree, someImports())
	a.loaded, a.unloaded = impl.ReadObject([]byte(text))
	a.kept, a.stored = impl.ObjectBytes(a.object)
	a.fits = impl.ObjectOK(a.loaded)
	proc := impl.Code{Name: text, Cells: number, List: []impl.Ins{{Op: number, A: number, Name: text}}}
	if procs := slices.Concat(a.object.Procs, a.loaded.Procs); len(procs) > 0 {
		proc = procs[0]
	}
	a.verified, a.verifiedAt = impl.VerifyCode(proc)
	a.listing, a.listed = impl.Listing(proc)
	objects, main := someObjects(), text
	for _, o := range []impl.Object{a.object, a.loaded} {
		if o.Module != "" {
			objects, main = append(objects, o), o.Module
		}
	}
	a.image, a.missing, a.linked = impl.Link(objects, main)
	a.starts = impl.ImageOK(a.image)
	a.run, a.ran = impl.Run(a.image, []int{number, 65, 66, 67}, 700)
	a.short, a.cut = impl.Run(a.image, nil, number)
	a.lines, a.told = impl.OutText(a.run.Out)
	a.odd, a.oddly = impl.OutText([]impl.Out{{Type: 1 + len(text)%3, Value: number}, {Type: number, Value: len(text)}})
	list, main := someSources(), text
	if a.tree.Name != "" {
		list, main = append(list, impl.Source{Name: a.tree.Name, Tree: a.tree}), a.tree.Name
	}
	a.order, a.ordered = impl.Order(list, main)
	a.sources = impl.SourcesOK(list, main)
	a.result, a.evaluated = impl.Evaluate(list, main, []int{number, 65, 66, 67}, 300)
	a.briefly, a.briefed = impl.Evaluate(list, main, nil, number)
	if a.tree.Name == "" {
		main = "M"
	}
	a.built = askBuilder(text, number, main)
	a.console = askConsole(text, number, a.result, a.built.clean)
	return a
}

// someSources are the modules of someImports.
func someSources() []impl.Source {
	var list []impl.Source
	for _, text := range []string{"MODULE Other; END Other.", moduleA, "MODULE B; END B."} {
		tree, _, _ := impl.Parse(text)
		list = append(list, impl.Source{Name: tree.Name, Tree: tree})
	}
	return list
}

func strangeTexts() []string {
	texts := []string{
		"", "\x00", "\xff", "END", "ok", "a b", "\"é\"", "(*", "x (* y *) 12 0AX",
		strings.Repeat("a", impl.MaxText), strings.Repeat("(", impl.MaxText+1), strings.Repeat("(*", impl.MaxSource/2),
		strings.Repeat("\xf0\x9f\x98\x80", impl.MaxSource/4), strings.Repeat("\xff", impl.MaxSource), strings.Repeat("\"", impl.MaxSource),
		strings.Repeat("9", impl.MaxSource), strings.Repeat(";", impl.MaxTokens), strings.Repeat(";", impl.MaxTokens+1),
		strings.Repeat(" x", 1<<20),
		grammarText, fullText, fullText[:len(fullText)/2], "MODULE M; END M.", "MODULE M; END N.", inConst(strings.Repeat("(", 30)), inBody(strings.Repeat("IF x THEN ", 100)),
		inConst("1" + strings.Repeat("+1", 500)), "MODULE M; VAR a, b, c, d*: ARRAY 3 OF CHAR; END M.", "MODULE M; VAR a: ARRAY 0 OF CHAR; END M.",
		exportingText, withGiven("i := A.F(j); IF A.t THEN READ(v[i]) END"), withGiven("A.S(A.h, x)"), exporting(60, 0, 0), exporting(0, 61, 0), "MODULE M; CONST a* = 1 DIV 0; END M.",
		"file M\nMODULE M; END M.\n.\nbuild M\nrun M 9\nremove M\n# x", "M", "M\n", "file M\nMODULE M;", strings.Repeat("\n", 300), strings.Repeat("\n", 301), strings.Repeat("build M\n", 300), strings.Repeat("run M 7 ", 8192),
		string(writtenInterface(importA())), string(writtenInterface(face(manyItems(60)...))), string(writtenInterface(face(manyItems(61)...))), "OI1\x01A\x00", "OI1\x01A", "OI1" + strings.Repeat("\xff", impl.MaxText),
		string(writtenObject(fullObject())), string(writtenObject(manyObject(20, 100, 60))), string(writtenObject(manyObject(21, 0, 1))), "OO1\x01A", "OO1" + strings.Repeat("\xff", impl.MaxText), strings.Repeat("OO1", 1<<20),
		withGiven("IF b & (i < 3) OR kb THEN v[i] := F(); R(v[1]) ELSE WHILE Q(j, c) DO READ(w[0]); WRITE(-i) END END"), exporting(61, 0, 0),
	}
	source := rand.New(rand.NewSource(1))
	for range 300 {
		texts = append(texts, randomText(source, 60))
	}
	return texts
}

var strangeNumbers = []int{
	math.MinInt, math.MinInt32, -1, 0, 1, 10, 18, 19, 34, 127, 0xD7FF, 0xD800, 0xDFFF, 0xE000, 0x10FFFF, 0x110000, math.MaxInt32, 1<<32 + 65, math.MaxInt,
}

// Promise 1: alike arguments have alike answers, whatever was called ahead, and what is done to an answer touches no other one.
func TestAnswersHangOnArgumentsAlone(t *testing.T) {
	texts := strangeTexts()
	first := make([]answers, len(texts))
	for i, text := range texts {
		first[i] = ask(text, strangeNumbers[i%len(strangeNumbers)])
	}
	for i := len(texts) - 1; i >= 0; i-- {
		number := strangeNumbers[i%len(strangeNumbers)]
		again := ask(strings.Clone(texts[i]), number)
		if !reflect.DeepEqual(again, first[i]) {
			t.Errorf("%.60q, %d: another answer the second time", texts[i], number)
		}
		for k := range again.list {
			again.list[k] = impl.Token{Kind: -1, Text: "spoilt"}
		}
		_ = append(again.list, impl.Token{Kind: -2})
		spoil(&again.tree)
		spoilInterface(&again.face)
		spoilInterface(&again.read)
		spoilObject(&again.object)
		spoilObject(&again.loaded)
		spoilImage(&again.image)
		spoilResult(&again.run)
		spoilResult(&again.short)
		spoilResult(&again.result)
		spoilResult(&again.briefly)
		for k := range again.order[:cap(again.order)] {
			again.order[:cap(again.order)][k] = "spoilt"
		}
		spoilBuilds(&again.built)
		for k := range again.kept {
			again.kept[k] = '?'
		}
		for k := range again.bytes {
			again.bytes[k] = '?'
		}
		if third := ask(texts[i], number); !reflect.DeepEqual(third, first[i]) {
			t.Errorf("%.60q, %d: another answer behind a spoilt one", texts[i], number)
		}
	}
}

// spoil writes over all of a tree, and behind the ends of its lists.
func spoil(n *impl.Node) {
	for i := range n.Kids {
		spoil(&n.Kids[i])
	}
	behind := n.Kids[:cap(n.Kids)]
	for i := range behind {
		behind[i] = impl.Node{Kind: -1, Name: "spoilt"}
	}
	*n = impl.Node{Kind: -2}
}

// spoilInterface writes over all of an interface, and behind the ends of its lists.
func spoilInterface(x *impl.Interface) {
	items := x.Items[:cap(x.Items)]
	for i := range items {
		list := items[i].Params[:cap(items[i].Params)]
		for k := range list {
			list[k] = impl.Param{Type: -1}
		}
		items[i] = impl.Item{Kind: -1, Name: "spoilt"}
	}
	*x = impl.Interface{Module: "spoilt"}
}

// spoilObject writes over all of an object, and behind the ends of its lists.
func spoilObject(o *impl.Object) {
	for i := range o.Needs[:cap(o.Needs)] {
		o.Needs[:cap(o.Needs)][i] = impl.Need{Module: "spoilt", Print: -1}
	}
	for i := range o.Globals[:cap(o.Globals)] {
		o.Globals[:cap(o.Globals)][i] = impl.Global{Name: "spoilt", Length: -1}
	}
	procs := o.Procs[:cap(o.Procs)]
	for i := range procs {
		list := procs[i].List[:cap(procs[i].List)]
		for k := range list {
			list[k] = impl.Ins{Op: -1, Name: "spoilt"}
		}
		procs[i] = impl.Code{Name: "spoilt", Params: -1}
	}
	*o = impl.Object{Module: "spoilt"}
}

// spoilImage writes over all of an image, and behind the ends of its lists.
func spoilImage(x *impl.Image) {
	procs := x.Procs[:cap(x.Procs)]
	for i := range procs {
		list := procs[i].List[:cap(procs[i].List)]
		for k := range list {
			list[k] = impl.Ins{Op: -1, Name: "spoilt"}
		}
		procs[i] = impl.Code{Name: "spoilt", Params: -1}
	}
	for i := range x.Names[:cap(x.Names)] {
		x.Names[:cap(x.Names)][i] = "spoilt"
	}
	for i := range x.Start[:cap(x.Start)] {
		x.Start[:cap(x.Start)][i] = -1
	}
	*x = impl.Image{Globals: -1}
}

func spoilBuilt(b *impl.Built) {
	spoilImage(&b.Image)
	for i := range b.Made[:cap(b.Made)] {
		b.Made[:cap(b.Made)][i] = "spoilt"
	}
	*b = impl.Built{Code: -1}
}

func spoilEntries(list []impl.Entry) {
	list = list[:cap(list)]
	for i := range list {
		list[i] = impl.Entry{Module: "spoilt", Sum: -1}
	}
}

// spoilBuilds writes over all of what is built, and behind the ends of its lists.
func spoilBuilds(b *builds) {
	spoilBuilt(&b.clean)
	spoilBuilt(&b.cached)
	spoilEntries(b.entries)
	spoilEntries(b.kept)
	for i := range b.files[:cap(b.files)] {
		b.files[:cap(b.files)][i] = impl.File{Name: "spoilt"}
	}
	for i := range b.list[:cap(b.list)] {
		spoilBuilt(&b.list[:cap(b.list)][i])
	}
}

func spoilResult(r *impl.Result) {
	list := r.Out[:cap(r.Out)]
	for i := range list {
		list[i] = impl.Out{Type: -1, Value: -1}
	}
	*r = impl.Result{End: -1}
}

// exportingText is a module that exports something of each Kind, several procedures with parameters among them.
const exportingText = "MODULE abc; IMPORT A; CONST k* = A.k; VAR xyz*: INTEGER; v*: ARRAY 9 OF CHAR; " +
	"PROCEDURE P*(a: INTEGER); END P; PROCEDURE Q*(VAR a: CHAR; b, c: BOOLEAN): CHAR; BEGIN RETURN a END Q; PROCEDURE R*(a, b: CHAR); END R; BEGIN xyz := k END abc."

// Promise 1: no two lists of an answer share memory, not even behind their ends.
func TestListsOfAnInterfaceShareNoMemory(t *testing.T) {
	first, code := impl.InterfaceOf(treeOf(t, exportingText), someImports())
	b, written := impl.InterfaceBytes(first)
	second, form := impl.ReadInterface(b)
	if code != impl.OK || written != impl.OK || form != impl.OK {
		t.Fatal("codes", code, written, form)
	}
	owners := map[*impl.Param]int{}
	for i, item := range append(append(first.Items, second.Items...), importA().Items...) {
		whole := item.Params[:cap(item.Params)]
		for k := range whole {
			if owner, met := owners[&whole[k]]; met {
				t.Errorf("lists %d and %d share memory", owner, i)
			}
			owners[&whole[k]] = i
		}
	}
	if len(owners) < 12 {
		t.Error("too few parameters:", len(owners))
	}
}

// Promise 1: what stands behind the end of a list that is handed in stays.
func TestInterfacesAreLeftAlone(t *testing.T) {
	imports := append(someImports(), impl.Interface{Module: "behind"})
	for i := range imports {
		items := append(imports[i].Items, impl.Item{Name: "behind"})
		for k := range items {
			items[k].Params = append(items[k].Params, impl.Param{Type: 99})
			items[k].Params = items[k].Params[:len(items[k].Params)-1]
		}
		imports[i].Items = items[:len(items)-1]
	}
	tree := treeOf(t, exportingText)
	x, code := impl.InterfaceOf(tree, imports[:3])
	impl.Check(tree, imports[:3])
	if code != impl.OK {
		t.Fatal("code", code)
	}
	spoilInterface(&x)
	b, _ := impl.InterfaceBytes(imports[1])
	memory := append(b[:len(b):len(b)], "behind"...)
	impl.ReadInterface(memory[:len(b)])
	if string(memory[len(b):]) != "behind" || string(memory[:len(b)]) != string(writtenInterface(importA())) {
		t.Error("bytes are changed")
	}
	impl.PrintOf(imports[1])
	for i, x := range imports {
		if items := x.Items[:len(x.Items)+1]; items[len(x.Items)].Name != "behind" {
			t.Error("something is written behind the items of", x.Module)
		} else {
			for _, item := range items {
				if behind := item.Params[:len(item.Params)+1][len(item.Params)]; behind != (impl.Param{Type: 99}) {
					t.Error("something is written behind the parameters of", item.Name)
				}
			}
		}
		if i < 3 && !sameInterface(x, someImports()[i]) {
			t.Error("an import is changed:", x)
		}
	}
	if imports[3].Module != "behind" {
		t.Error("something is written behind the imports")
	}
}

// Promise 1: no two lists of an answer share memory, not even behind their ends.
func TestListsOfATreeShareNoMemory(t *testing.T) {
	for _, text := range []string{grammarText, fullText, "MODULE M; VAR a, b, c: ARRAY 3 OF CHAR; d, e, f: CHAR; PROCEDURE P(a, b, c: CHAR); VAR a, b: CHAR; END P; END M."} {
		tree, code, _ := impl.Parse(text)
		if code != impl.OK {
			t.Fatal("code", code)
		}
		owners := map[*impl.Node]int{}
		list := 0
		eachNode(&tree, func(n *impl.Node) {
			list++
			whole := n.Kids[:cap(n.Kids)]
			for i := range whole {
				if owner := owners[&whole[i]]; owner != 0 {
					t.Errorf("lists %d and %d share memory", owner, list)
				}
				owners[&whole[i]] = list
			}
		})
	}
}

// Promise 1: the calls that are given trees leave them as they are, and answer alike to alike ones.
func TestAnswersToTreesHangOnThemAlone(t *testing.T) {
	source := rand.New(rand.NewSource(8))
	for range 300 {
		tree := randomTree(source)
		if source.Intn(3) == 0 {
			eachNode(&tree, func(n *impl.Node) {
				if source.Intn(30) == 0 {
					n.Kind = source.Intn(28)
				}
			})
		}
		before := copyTree(tree)
		text, code := impl.Print(tree)
		right, size := impl.TreeOK(tree), impl.Size(tree)
		again, codeAgain := impl.Print(before)
		if !reflect.DeepEqual(tree, before) || text != again || code != codeAgain || right != impl.TreeOK(before) || size != impl.Size(before) {
			t.Errorf("a tree is changed, or has two answers: %.300v", before)
		}
		if right != (code == impl.OK) || right != (text != "") || size != count(before) {
			t.Errorf("right %v, code %d, size %d: %.300v", right, code, size, before)
		}
	}
}

func TestEachNumberWithEachCall(t *testing.T) {
	for _, number := range strangeNumbers {
		a, b := ask("", number), ask("", number)
		if !reflect.DeepEqual(a, b) {
			t.Errorf("%d: two answers", number)
		}
		if a.char != (a.code == impl.OK) || a.char == (a.chars == "") {
			t.Errorf("%d: a character %v, its text %q, code %d", number, a.char, a.chars, a.code)
		}
	}
}

func TestAnswersOfCallsAtTheSameTime(t *testing.T) {
	texts := strangeTexts()
	alone := make([]answers, len(texts))
	for i, text := range texts {
		alone[i] = ask(text, i)
	}
	together := make([]answers, len(texts))
	var group sync.WaitGroup
	for i, text := range texts {
		group.Add(1)
		go func() {
			defer group.Done()
			together[i] = ask(text, i)
		}()
	}
	group.Wait()
	for i := range texts {
		if !reflect.DeepEqual(alone[i], together[i]) {
			t.Errorf("%.60q: another answer among others", texts[i])
		}
	}
}

// Promise 1: a text that stands in memory of the caller's own, which changes later, leaves what was answered.
func TestAnswersShareNothingWithArguments(t *testing.T) {
	for _, before := range []string{"MODULE abc; x12 := <= \"é\" 12 0AX ~ END", fullText, grammarText} {
		memory := []byte(before)
		text := unsafe.String(&memory[0], len(memory))
		list, _, _ := impl.Tokens(text)
		tree, _, _ := impl.Parse(text)
		want := ask(before, 0)
		if want.tokens != impl.OK || string(memory) != before {
			t.Fatal("the argument is changed, or has a code", want.tokens)
		}
		for i := range memory {
			memory[i] = '?'
		}
		if !reflect.DeepEqual(list, want.list) || !reflect.DeepEqual(tree, want.tree) {
			t.Error("what is answered lies in the memory of the text:", list, tree)
		}
	}
}

// Promise 1: nor does an interface lie in the memory of a tree, or of bytes.
func TestInterfacesShareNothingWithTrees(t *testing.T) {
	memory := []byte("xyz")
	name := unsafe.String(&memory[0], len(memory))
	tree := namedNode(impl.NdModule, 0, name, namedNode(impl.NdConst, 1, name, intNode(1)), blockNode())
	x, code := impl.InterfaceOf(tree, nil)
	b, _ := impl.InterfaceBytes(x)
	again, form := impl.ReadInterface(b)
	memory[0] = '?'
	for i := range b {
		b[i] = '?'
	}
	want := impl.Interface{Module: "xyz", Items: []impl.Item{{Kind: impl.ItConst, Type: impl.TyInt, Value: 1, Name: "xyz"}}}
	if code != impl.OK || form != impl.OK || !sameInterface(x, want) || !sameInterface(again, want) {
		t.Error("an interface changes:", x, again)
	}
}

// Promise 1: nor does a printed text lie in the memory of a name.
func TestPrintedTextsShareNothingWithNames(t *testing.T) {
	memory := []byte("abc")
	name := unsafe.String(&memory[0], len(memory))
	text, _ := impl.Print(namedNode(impl.NdModule, 0, name, blockNode(namedNode(impl.NdCall, 0, name))))
	memory[0] = '?'
	if text != "MODULE abc;\nBEGIN\n  abc()\nEND abc.\n" {
		t.Error("a printed text changes:", text)
	}
}

// Promise 1: no two lists of an answer share memory, not even behind their ends.
func TestListsOfAnObjectShareNoMemory(t *testing.T) {
	first, code, _ := impl.Compile(treeOf(t, exportingText), someImports())
	b, written := impl.ObjectBytes(first)
	second, form := impl.ReadObject(b)
	if code != impl.OK || written != impl.OK || form != impl.OK {
		t.Fatal("codes", code, written, form)
	}
	owners := map[*impl.Ins]int{}
	for i, proc := range append(append([]impl.Code(nil), first.Procs...), second.Procs...) {
		list := proc.List[:cap(proc.List)]
		for k := range list {
			if owner, met := owners[&list[k]]; met {
				t.Errorf("lists %d and %d share memory", owner, i)
			}
			owners[&list[k]] = i
		}
	}
	if len(owners) < 16 {
		t.Error("too few instructions:", len(owners))
	}
	want := copyObject(first)
	spoilObject(&second)
	if !sameObject(first, want) {
		t.Error("an object changes with the one that is read of its bytes")
	}
}

// widened has room behind each of its lists, in which something stands.
func widened(o impl.Object) impl.Object {
	o.Needs = append(append([]impl.Need(nil), o.Needs...), impl.Need{Print: 99})[:len(o.Needs)]
	o.Globals = append(append([]impl.Global(nil), o.Globals...), impl.Global{Length: 99})[:len(o.Globals)]
	o.Procs = append(append([]impl.Code(nil), o.Procs...), impl.Code{Params: 99})[:len(o.Procs)]
	for i := range o.Procs {
		o.Procs[i].List = append(append([]impl.Ins(nil), o.Procs[i].List...), impl.Ins{Op: 99})[:len(o.Procs[i].List)]
	}
	return o
}

// Promise 1: what stands behind the end of a list that is handed in stays.
func TestObjectsAreLeftAlone(t *testing.T) {
	for _, o := range []impl.Object{fullObject(), manyObject(20, 100, 60), manyObject(21, 101, 61), {Module: "M"}, {}} {
		wide := widened(o)
		impl.ObjectOK(wide)
		b, code := impl.ObjectBytes(wide)
		again, codeAgain := impl.ObjectBytes(o)
		if string(b) != string(again) || code != codeAgain {
			t.Error("what stands behind a list tells:", code, codeAgain)
		}
		for _, proc := range wide.Procs {
			impl.VerifyCode(proc)
			impl.Listing(proc)
			if behind := proc.List[:len(proc.List)+1][len(proc.List)]; behind != (impl.Ins{Op: 99}) {
				t.Error("something is written behind a code:", behind)
			}
		}
		if !sameObject(wide, o) || wide.Needs[:len(wide.Needs)+1][len(wide.Needs)].Print != 99 || wide.Globals[:len(wide.Globals)+1][len(wide.Globals)].Length != 99 || wide.Procs[:len(wide.Procs)+1][len(wide.Procs)].Params != 99 {
			t.Errorf("an object is changed: %.300v", wide)
		}
	}
	b := writtenObject(fullObject())
	memory := append(b[:len(b):len(b)], "behind"...)
	impl.ReadObject(memory[:len(b)])
	if string(memory) != string(b)+"behind" {
		t.Error("bytes are changed")
	}
}

// Promise 1: the tree and the imports of what is compiled stay, and so does what stands behind their ends.
func TestTreesThatAreCompiledAreLeftAlone(t *testing.T) {
	imports := append(someImports(), impl.Interface{Module: "behind"})
	tree := treeOf(t, exportingText)
	before := copyTree(tree)
	eachNode(&tree, func(n *impl.Node) {
		n.Kids = append(n.Kids[:len(n.Kids):len(n.Kids)], impl.Node{Kind: 99})[:len(n.Kids)]
	})
	o, code, _ := impl.Compile(tree, imports[:3])
	want := copyObject(o)
	if code != impl.OK || !reflect.DeepEqual(copyTree(tree), before) || !reflect.DeepEqual(imports[:3], someImports()) || imports[3].Module != "behind" {
		t.Error("an argument is changed, or has a code:", code)
	}
	eachNode(&tree, func(n *impl.Node) {
		if behind := n.Kids[:len(n.Kids)+1][len(n.Kids)]; behind.Kind != 99 {
			t.Error("something is written behind a list of kids:", behind)
		}
	})
	spoil(&tree)
	for i := range imports {
		spoilInterface(&imports[i])
	}
	if !sameObject(o, want) {
		t.Error("an object changes with what it was compiled of")
	}
}

// Promise 1: nor does an object lie in the memory of a tree's names, or of bytes.
func TestObjectsShareNothingWithTrees(t *testing.T) {
	memory := []byte("xyzpqrxyzA")
	name := unsafe.String(&memory[0], 3)
	proc := unsafe.String(&memory[3], 3)
	module := unsafe.String(&memory[9], 1)
	build := func(name, proc, module string) impl.Node {
		return namedNode(impl.NdModule, 0, name, namedNode(impl.NdImport, 0, module), namedNode(impl.NdVar, 0, name, typeNode(impl.TyInt)),
			namedNode(impl.NdProc, 0, proc, numberNode(impl.NdResult, 0), blockNode()),
			blockNode(node(impl.NdAssign, nameNode(name), ofNode(impl.NdName, module, "x")), namedNode(impl.NdCall, 0, proc), ofNode(impl.NdCall, module, "G")))
	}
	tree := build(name, proc, module)
	imports := someImports()
	imports[1].Module = module
	o, code, _ := impl.Compile(tree, imports)
	b, written := impl.ObjectBytes(o)
	again, form := impl.ReadObject(b)
	text, listed := impl.Listing(o.Procs[1])
	for i := range memory {
		memory[i] = '?'
	}
	for i := range b {
		b[i] = '?'
	}
	want := codeByRules(build("xyz", "pqr", "A"), someImports())
	if code != impl.OK || written != impl.OK || form != impl.OK || !sameObject(o, want) || !sameObject(again, want) {
		t.Error("an object changes:", o, again)
	}
	if listed != impl.OK || text != listingByRule(want.Procs[1]) {
		t.Error("a listing changes:", text)
	}
	memory = []byte("MNP")
	names := bodyCode(impl.Ins{Op: impl.OpCall, Mod: unsafe.String(&memory[0], 1), Name: unsafe.String(&memory[1], 1)}, end())
	text, _ = impl.Listing(names)
	memory[0], memory[1] = '?', '?'
	if text != "0 call M.N 0 0\n1 return\n" {
		t.Error("a listing changes with a name:", text)
	}
}

// Promise 1: no two lists of an image share memory, nor with what was linked, even where that shares some itself.
func TestListsOfAnImageShareNoMemory(t *testing.T) {
	list := withNeeds(offering("M"), offering("A"), offering("B"))
	for i := range list {
		list[i].Procs = list[0].Procs
	}
	list[1].Globals = list[0].Globals
	list[0].Procs[2].List = list[0].Procs[0].List
	x, _, code := impl.Link(list, "M")
	if code != impl.OK || len(x.Procs) != 21 {
		t.Fatal("code", code, len(x.Procs))
	}
	want := copyImage(x)
	owners := map[*impl.Ins]int{}
	for at, proc := range x.Procs {
		whole := proc.List[:cap(proc.List)]
		for k := range whole {
			if owner, met := owners[&whole[k]]; met {
				t.Errorf("lists %d and %d share memory", owner, at)
			}
			owners[&whole[k]] = at
		}
	}
	for _, proc := range list[0].Procs {
		for k := range proc.List {
			if owner, met := owners[&proc.List[k]]; met {
				t.Errorf("list %d shares memory with an object's", owner)
			}
		}
	}
	for i := range list {
		spoilObject(&list[i])
	}
	if !sameImage(x, want) {
		t.Error("an image changes with what it was linked of")
	}
}

// Promise 1: what is linked stays as it is, and so does what stands behind the ends of its lists; so do lists that are full of room.
func TestObjectsThatAreLinkedAreLeftAlone(t *testing.T) {
	b := calling("B", namedIns(impl.OpGlobal, "A", "v"))
	list := withNeeds(calling("M", namedIns(impl.OpCall, "A", "f2", 2, 1)), offering("A"), b)
	before := copyObjects(list)
	wide := append(copyObjects(list), impl.Object{Module: "behind"})
	for i := range list {
		wide[i] = widened(wide[i])
	}
	for _, main := range []string{"M", "A", "X", "behind"} {
		x, module, code := impl.Link(wide[:len(list)], main)
		again, moduleAgain, codeAgain := impl.Link(before, main)
		if code != codeAgain || module != moduleAgain || !sameImage(x, again) {
			t.Error("what stands behind a list tells:", code, module)
		}
		spoilImage(&x)
	}
	for i, o := range wide[:len(list)] {
		if !sameObject(o, before[i]) || o.Needs[:len(o.Needs)+1][len(o.Needs)].Print != 99 || o.Globals[:len(o.Globals)+1][len(o.Globals)].Length != 99 || o.Procs[:len(o.Procs)+1][len(o.Procs)].Params != 99 {
			t.Errorf("an object is changed: %.300v", o)
		}
		for _, proc := range o.Procs {
			if behind := proc.List[:len(proc.List)+1][len(proc.List)]; behind != (impl.Ins{Op: 99}) {
				t.Error("something is written behind a code:", behind)
			}
		}
	}
	if wide[len(list)].Module != "behind" {
		t.Error("something is written behind the objects")
	}
}

// Promise 1: an image that runs stays as it is, and so do the inputs.
func TestImagesThatRunAreLeftAlone(t *testing.T) {
	x := fullImage(t)
	before := copyImage(x)
	for i := range x.Procs {
		list := x.Procs[i].List
		x.Procs[i].List = append(list[:len(list):len(list)], impl.Ins{Op: 99})[:len(list)]
	}
	x.Procs = append(x.Procs[:len(x.Procs):len(x.Procs)], impl.Code{Params: 99})[:len(x.Procs)]
	x.Names = append(x.Names[:len(x.Names):len(x.Names)], "behind")[:len(x.Names)]
	x.Start = append(x.Start[:len(x.Start):len(x.Start)], 99)[:len(x.Start)]
	input := []int{65, 66, 67, 99}
	if !impl.ImageOK(x) {
		t.Fatal("not right")
	}
	r, code := impl.Run(x, input[:3], 5000)
	want, wantCode := impl.Run(before, []int{65, 66, 67}, 5000)
	if code != impl.OK || wantCode != impl.OK || !sameResult(r, want) || len(r.Out) < 2 {
		t.Error("what stands behind a list tells:", code, r, want)
	}
	spoilResult(&r)
	again, _ := impl.Run(x, input[:3], 5000)
	if !sameResult(again, want) {
		t.Error("another result behind a spoilt one:", again)
	}
	if _, code := impl.OutText(append(again.Out[:len(again.Out):len(again.Out)], impl.Out{Type: 99})[:len(again.Out)]); code != impl.OK {
		t.Error("what stands behind a list tells: code", code)
	}
	if !sameImage(x, before) || !slices.Equal(input, []int{65, 66, 67, 99}) || x.Procs[:len(x.Procs)+1][len(x.Procs)].Params != 99 || x.Names[:len(x.Names)+1][len(x.Names)] != "behind" || x.Start[:len(x.Start)+1][len(x.Start)] != 99 {
		t.Error("an image is changed, or the inputs:", x, input)
	}
	for _, proc := range x.Procs {
		if behind := proc.List[:len(proc.List)+1][len(proc.List)]; behind != (impl.Ins{Op: 99}) {
			t.Error("something is written behind a code:", behind)
		}
	}
}

// Promise 1: one image may run many times at once.
func TestRunsAtTheSameTime(t *testing.T) {
	x := linkedTexts(t, moduleA, "MODULE M; IMPORT A; VAR i, n: INTEGER; PROCEDURE P(d: INTEGER): INTEGER; BEGIN IF d = 0 THEN RETURN n END; n := n + d; RETURN P(d - 1) END P; BEGIN READ(i); WHILE i < 20 DO WRITE(P(i)); A.G(); i := i + 1 END END M.")
	alone := make([]impl.Result, 20)
	for i := range alone {
		alone[i], _ = impl.Run(x, []int{i}, 3000)
	}
	together := make([]impl.Result, len(alone))
	var group sync.WaitGroup
	for i := range together {
		group.Add(1)
		go func() {
			defer group.Done()
			together[i], _ = impl.Run(x, []int{i}, 3000)
		}()
	}
	group.Wait()
	for i := range alone {
		if !sameResult(alone[i], together[i]) || alone[i].End == 0 || len(alone[i].Out) == 0 {
			t.Errorf("%d: %v, among others %v", i, alone[i], together[i])
		}
	}
}

// Promise 1: nor does an image, or the module at fault, lie in the memory of names.
func TestImagesShareNothingWithNames(t *testing.T) {
	memory := []byte("MProcAxwhole")
	text := func(from, to int) string { return unsafe.String(&memory[from], to-from) }
	build := func(module, proc, other, variable string) []impl.Object {
		m := graph("M")[0]
		m.Module = module
		m.Needs = []impl.Need{{Module: other, Print: printOfName("A")}}
		m.Procs = []impl.Code{{Name: proc, List: []impl.Ins{end()}}, bodyCode(namedIns(impl.OpCall, module, proc), namedIns(impl.OpGlobal, other, variable), ins(impl.OpWrite, 1), end())}
		a := graph("A")[0]
		a.Module, a.Globals = other, []impl.Global{{Name: variable}}
		return []impl.Object{m, a}
	}
	list := build(text(0, 1), text(1, 5), text(5, 6), text(6, 7))
	x, _, code := impl.Link(list, text(0, 1))
	var modules []string
	var codes []int
	add := func(main string, change func(list []impl.Object)) {
		changed := copyObjects(list)
		change(changed)
		_, module, code := impl.Link(changed, main)
		modules, codes = append(modules, module), append(codes, code)
	}
	add(text(7, 12), func(list []impl.Object) {})
	add(text(0, 1), func(list []impl.Object) { list[1].Module = "B" })
	add(text(0, 1), func(list []impl.Object) { list[1].Needs = []impl.Need{{Module: text(0, 1), Print: list[0].Print}} })
	add(text(0, 1), func(list []impl.Object) { list[0].Needs[0].Print++ })
	add(text(0, 1), func(list []impl.Object) { list[1].Globals = nil })
	add(text(0, 1), func(list []impl.Object) {
		list[0].Procs[0].Result, list[0].Procs[0].List = 1, []impl.Ins{ins(impl.OpTrap, 5)}
	})
	add(text(0, 1), func(list []impl.Object) {
		for at := range 31 {
			list[1].Globals = append(list[1].Globals, impl.Global{Name: strings.Repeat("g", at+1), Length: 100})
		}
	})
	for i := range memory {
		memory[i] = '?'
	}
	want, _, wantCode := impl.Link(build("M", "Proc", "A", "x"), "M")
	if code != impl.OK || wantCode != impl.OK || !sameImage(x, want) {
		t.Error("an image changes:", x)
	}
	if !slices.Equal(modules, strings.Fields("whole A M M M M M")) || !slices.Equal(codes, []int{impl.ErrNone, impl.ErrNone, impl.ErrCycle, impl.ErrPrint, impl.ErrName, impl.ErrCount, impl.ErrSize}) {
		t.Error("modules at fault:", modules, codes)
	}
}

// chatty has sources that tell much, one of which is not needed.
func chatty(t *testing.T) []impl.Source {
	return sourcesOf(t, "MODULE M; IMPORT A; VAR i, n: INTEGER; v: ARRAY 3 OF INTEGER; PROCEDURE P(d: INTEGER; VAR s: INTEGER): INTEGER; BEGIN IF d = 0 THEN RETURN n END; n := n + d; s := s + 1; RETURN P(d - 1, s) END P; "+
		"BEGIN READ(i); WHILE i < 20 DO WRITE(P(i, v[i MOD 3])); A.G(); i := i + 1 END; WRITE(v[0] - v[1] * v[2]) END M.", moduleA, "MODULE C; IMPORT M; END C.")
}

// Promise 1: sources that are evaluated stay as they are, and so do the inputs and what stands behind the ends of lists.
func TestSourcesAreLeftAlone(t *testing.T) {
	list := chatty(t)
	before := copySources(list)
	wide := append(copySources(list), impl.Source{Name: "behind"})
	var behind []*impl.Node
	for i := range list {
		eachNode(&wide[i].Tree, func(n *impl.Node) {
			many := len(n.Kids)
			n.Kids = append(n.Kids[:many:many], impl.Node{Kind: 99})
			behind = append(behind, &n.Kids[many])
			n.Kids = n.Kids[:many]
		})
	}
	input := []int{3, 113, 67, 99}
	for _, main := range []string{"M", "A", "C", "X", "behind"} {
		order, code := impl.Order(wide[:3], main)
		again, codeAgain := impl.Order(before, main)
		right := impl.SourcesOK(wide[:3], main)
		r, ran := impl.Evaluate(wide[:3], main, input[:2], 2000)
		want, wantRan := impl.Evaluate(before, main, []int{3, 113}, 2000)
		if !slices.Equal(order, again) || code != codeAgain || right != (ran == impl.OK) || ran != wantRan || !sameResult(r, want) {
			t.Error("what stands behind a list tells:", main, order, code, right, r, ran)
		}
		spoilResult(&r)
		if r, _ := impl.Evaluate(wide[:3], main, input[:2], 2000); !sameResult(r, want) {
			t.Error("another result behind a spoilt one:", r)
		}
	}
	if !reflect.DeepEqual(copySources(wide[:3]), before) || wide[3].Name != "behind" || !slices.Equal(input, []int{3, 113, 67, 99}) {
		t.Error("an argument is changed")
	}
	for _, n := range behind {
		if n.Kind != 99 {
			t.Error("something is written behind a list of kids:", n)
		}
	}
}

// Promise 1: sources may be evaluated many times at once, also where they share memory.
func TestEvaluationsAtTheSameTime(t *testing.T) {
	list := chatty(t)
	alone := make([]impl.Result, 20)
	for i := range alone {
		alone[i], _ = impl.Evaluate(list, "M", []int{i}, 3000)
	}
	together := make([]impl.Result, len(alone))
	var group sync.WaitGroup
	for i := range together {
		group.Add(1)
		go func() {
			defer group.Done()
			together[i], _ = impl.Evaluate(list, "M", []int{i}, 3000)
		}()
	}
	group.Wait()
	for i := range alone {
		if !sameResult(alone[i], together[i]) || alone[i].End != impl.EnHalt || len(alone[i].Out) < 2 {
			t.Errorf("%d: %v, among others %v", i, alone[i], together[i])
		}
	}
}

// Promise 1: nor does an order lie in the memory of names, be they those of sources, of imports or of main.
func TestOrdersShareNothingWithNames(t *testing.T) {
	memory := []byte("MABMAAM")
	text := func(at int) string { return unsafe.String(&memory[at], 1) }
	list := importing("M A B", "A", "B A")
	for i := range list {
		list[i].Name = text(i)
	}
	list[0].Tree.Name, list[1].Tree.Name = text(3), text(4)
	list[2].Tree.Kids[0].Name = text(5)
	order, code := impl.Order(list, text(6))
	for i := range memory {
		memory[i] = '?'
	}
	if code != impl.OK || !slices.Equal(order, []string{"A", "B", "M"}) {
		t.Error("an order changes:", order, code)
	}
}

// someBuilds are files, entries of which some are taken, and a main one.
func someBuilds(t *testing.T) ([]impl.File, []impl.Entry) {
	t.Helper()
	files := filesOf(moduleA, "MODULE B; IMPORT A; CONST b* = 2; BEGIN WRITE(A.k) END B.", "MODULE C; END C.", "MODULE M; IMPORT A, B; VAR i: INTEGER; BEGIN i := 2; WRITE(A.F(i) + B.b) END M.")
	_, entries := wantClean(t, files, "M")
	entries[1].Bytes = entries[1].Bytes[1:]
	return files, append(entries, impl.Entry{Module: "X", Source: "x"}, entries[0])
}

// Promise 1: files, entries and acts stay as they are, and so does what stands behind the ends of lists.
func TestWhatIsBuiltIsLeftAlone(t *testing.T) {
	files, entries := someBuilds(t)
	wideFiles := append(slices.Clone(files), impl.File{Name: "behind"}, impl.File{Name: "behind"})
	wideEntries := append(slices.Clone(entries), impl.Entry{Module: "behind"}, impl.Entry{Module: "behind"}, impl.Entry{Module: "behind"})
	for _, main := range []string{"M", "A", "B", "C", "X", "behind"} {
		built, behind, code := impl.CachedBuild(wideFiles[:4], wideEntries[:5], main)
		want, wantBehind := buildByRules(files, entries, main)
		clean, _ := impl.CleanBuild(wideFiles[:4], main)
		if code != impl.OK || !sameBuilt(built, want) || !slices.Equal(behind, wantBehind) || !sameButMade(clean, want) {
			t.Error("what stands behind a list tells:", main, code, built)
		}
		spoilBuilt(&built)
		spoilBuilt(&clean)
		spoilEntries(behind)
	}
	if !slices.Equal(wideFiles[:4], files) || !slices.Equal(wideEntries[:5], entries) {
		t.Error("an argument is changed:", wideFiles, wideEntries)
	}
	for _, f := range wideFiles[4:] {
		if f.Name != "behind" {
			t.Error("something is written behind the files:", f)
		}
	}
	for _, e := range wideEntries[5:] {
		if e.Module != "behind" {
			t.Error("something is written behind the entries:", e)
		}
	}
	acts := append([]impl.BuildAct{writeText(telling("M")), build("M"), damage("M", 0, 0), build("M"), remove("M")}, impl.BuildAct{Kind: 99})
	before := slices.Clone(acts)
	if _, _, builds, code := impl.RunBuilder(acts[:5]); code != impl.OK || len(builds) != 2 || !slices.Equal(acts, before) {
		t.Error("acts are changed:", acts, code)
	}
}

// Promise 1: no two lists of the builds of one answer share memory, whether their objects are made or kept.
func TestListsOfBuildsShareNoMemory(t *testing.T) {
	acts := []impl.BuildAct{writeText(moduleA), writeText(telling("M", "A")), build("M"), build("M"), build("A"), damage("M", 9, 9), build("M"), build("X"), writeText(moduleA + " "), build("M")}
	files, entries, builds, code := impl.RunBuilder(acts)
	if code != impl.OK || len(builds) != 6 {
		t.Fatal("code", code, len(builds))
	}
	var want []impl.Built
	for _, b := range builds {
		want = append(want, copyBuilt(b))
	}
	owners := map[any]int{}
	met := func(at int, place any) {
		if owner, met := owners[place]; met {
			t.Errorf("lists of builds %d and %d share memory", owner, at)
		}
		owners[place] = at
	}
	for at, b := range builds {
		for k := range b.Made[:cap(b.Made)] {
			met(at, &b.Made[:cap(b.Made)][k])
		}
		for k := range b.Image.Procs[:cap(b.Image.Procs)] {
			met(at, &b.Image.Procs[:cap(b.Image.Procs)][k])
			list := b.Image.Procs[:cap(b.Image.Procs)][k].List
			for i := range list[:cap(list)] {
				met(at, &list[:cap(list)][i])
			}
		}
		for k := range b.Image.Names[:cap(b.Image.Names)] {
			met(at, &b.Image.Names[:cap(b.Image.Names)][k])
		}
	}
	if len(owners) < 100 {
		t.Error("too few places:", len(owners))
	}
	for at := range builds {
		for other := range builds {
			if other >= at && !sameBuilt(builds[other], want[other]) {
				t.Error("a build changes with one ahead of it")
			}
		}
		spoilBuilt(&builds[at])
	}
	wantFiles := []impl.File{{Name: "A", Text: moduleA + " "}, {Name: "M", Text: telling("M", "A")}}
	if !slices.Equal(files, wantFiles) || len(entries) != 2 || !impl.EntryOK(entries[0]) || !impl.EntryOK(entries[1]) {
		t.Error("files and entries change with builds:", files, entries)
	}
}

// Promise 1: the same files and entries may be built many times at once.
func TestBuildsAtTheSameTime(t *testing.T) {
	files, entries := someBuilds(t)
	mains := []string{"M", "A", "B", "C", "X"}
	together := make([]builds, 20)
	var group sync.WaitGroup
	for i := range together {
		group.Add(1)
		go func() {
			defer group.Done()
			b := &together[i]
			b.cached, b.entries, b.saved = impl.CachedBuild(files, entries, mains[i%5])
			b.clean, b.cleaned = impl.CleanBuild(files, mains[i%5])
			b.fit, b.right = impl.FilesOK(files), impl.EntryOK(entries[0])
		}()
	}
	group.Wait()
	for i, b := range together {
		built, behind := wantBuilt(t, files, entries, mains[i%5])
		if b.saved != impl.OK || b.cleaned != impl.OK || !b.fit || !b.right || !sameBuilt(b.cached, built) || !slices.Equal(b.entries, behind) || !sameButMade(b.clean, built) {
			t.Errorf("%d: %v among others, %v alone", i, b.cached, built)
		}
	}
}

// Promise 1: nor does what is built lie in the memory of names and texts.
func TestBuildsShareNothingWithTexts(t *testing.T) {
	var memory []byte
	type part struct{ from, to int }
	text := func(at part) string { return unsafe.String(&memory[at.from], at.to-at.from) }
	lay := func(t string) part {
		memory = append(memory, t...)
		return part{len(memory) - len(t), len(memory)}
	}
	sources, kept := someBuilds(t)
	kept[1] = entryOf(kept[1].Source, kept[1].Faces, impl.Object{Module: "B"}) // not right
	var names, texts []part
	for _, f := range sources {
		names, texts = append(names, lay(f.Name)), append(texts, lay(f.Text))
	}
	var fields [][4]part
	for _, e := range kept {
		fields = append(fields, [4]part{lay(e.Module), lay(e.Source), lay(e.Faces + "x"), lay(e.Bytes)})
	}
	m, x := lay("M"), lay("X")
	var files []impl.File
	var acts []impl.BuildAct
	for i := range names {
		files = append(files, impl.File{Name: text(names[i]), Text: text(texts[i])})
		acts = append(acts, write(text(names[i]), text(texts[i])))
	}
	var entries []impl.Entry
	for i, at := range fields {
		at[2].to--
		entries = append(entries, impl.Entry{Module: text(at[0]), Source: text(at[1]), Faces: text(at[2]), Bytes: text(at[3]), Sum: kept[i].Sum})
	}
	built, behind, code := impl.CachedBuild(files, entries, text(m))
	clean, cleaned := impl.CleanBuild(files, text(m))
	missing, _ := impl.CleanBuild(files, text(x))
	all, stored, list, acted := impl.RunBuilder(append(acts, build(text(m)), damage(text(m), 0, 0), build(text(x))))
	for i := range memory {
		memory[i] = '?'
	}
	want, wantBehind := buildByRules(sources, kept, "M")
	if code != impl.OK || !sameBuilt(built, want) || !slices.Equal(behind, wantBehind) {
		t.Error("a build changes with its texts:", built, behind)
	}
	want, wantBehind = buildByRules(sources, nil, "M")
	b := []byte(wantBehind[2].Bytes)
	b[0] = 0
	wantBehind[2].Bytes = string(b)
	if cleaned != impl.OK || !sameBuilt(clean, want) || missing.Module != "X" || missing.Code != impl.ErrNone {
		t.Error("a clean build changes with its texts:", clean, missing)
	}
	if acted != impl.OK || !slices.Equal(all, sources) || !slices.Equal(stored, wantBehind) || len(list) != 2 || !sameBuilt(list[0], want) || list[1].Module != "X" {
		t.Error("what acts make changes with their texts:", all, stored, list)
	}
}

const someLines = "file A\nMODULE A; CONST k* = 1;\nBEGIN WRITE(k) END A.\n.\nfile M\nMODULE M; IMPORT A; VAR i: INTEGER; BEGIN READ(i); WRITE(i DIV A.k) END M.\n.\nbuild M\nbuild M\nrun M 99 7\nrun M 99\nremove A\nbuild M\nfile Ax\nMODULE A; END A.\n.\nbuild Ax\nbuild X\nx y"

// Promise 1: what is told of a build leaves it as it is, and what stands behind the ends of its lists; so does what is told of a run.
func TestWhatIsToldIsLeftAlone(t *testing.T) {
	for _, code := range []int{impl.OK, impl.ErrNone, -1} {
		made := []string{"A", "B", "behind", "behind"}
		procs := []impl.Code{{Name: "P"}, {Name: "behind"}}
		b := impl.Built{Code: code, Place: 3, Module: "M", Image: impl.Image{Procs: procs[:1], Names: made[:2]}, Made: made[:2]}
		before := copyBuilt(b)
		text, _ := impl.BuiltText(b)
		if want, _ := builtLine(before); text != want || !sameBuilt(b, before) {
			t.Errorf("BuiltText(%v): %q, want %q", b, text, want)
		}
		if !slices.Equal(made, strings.Fields("A B behind behind")) || procs[1].Name != "behind" {
			t.Error("something is written behind a list:", made, procs)
		}
	}
	out := []impl.Out{{Type: 1, Value: 7}, {Type: 99}}
	r := impl.Result{End: impl.EnTrap, Trap: impl.TrChar, Out: out[:1], Used: 5}
	if text, code := impl.EndText(r); text != "trap char\n" || code != impl.OK || r.Used != 5 || out[0] != (impl.Out{Type: 1, Value: 7}) || out[1] != (impl.Out{Type: 99}) {
		t.Error("a result is changed:", text, code, r, out)
	}
}

// Promise 1: nor does what a console says, or what is told of a build, lie in the memory of texts.
func TestWhatIsToldSharesNothingWithTexts(t *testing.T) {
	memory := []byte(someLines)
	said, code := impl.Console(unsafe.String(&memory[0], len(memory)))
	if string(memory) != someLines {
		t.Error("a text is changed:", string(memory))
	}
	names := []byte("MAB")
	text := func(at int) string { return unsafe.String(&names[at], 1) }
	built, _ := impl.BuiltText(impl.Built{Module: text(0), Made: []string{text(1), text(2)}})
	missing, _ := impl.BuiltText(impl.Built{Code: impl.ErrNone, Module: text(0)})
	copy(names, "???")
	for i := range memory {
		memory[i] = '?'
	}
	want := "ok\nok\nbuilt 2 A M\nbuilt 2\n1\n7\nhalt\n1\ntrap input\nok\nerror none A 0\nok\nerror name Ax 0\nerror none X 0\nerror form\n"
	if code != impl.OK || said != want {
		t.Errorf("what is said changes: code %d, %q", code, said)
	}
	if built != "built 0 A B\n" || missing != "error none M 0\n" {
		t.Errorf("what is told changes: %q, %q", built, missing)
	}
}

// Promise 1: consoles keep nothing of each other, not even at the same time.
func TestConsolesAtTheSameTime(t *testing.T) {
	lines := strings.Split(someLines, "\n")
	texts := []string{someLines, "build M", "build A\nrun M 9", "remove A", strings.Join(lines[:8], "\n"), strings.Join(lines[4:], "\n")}
	alone := make([]string, len(texts))
	for i, text := range texts {
		alone[i], _ = impl.Console(text)
	}
	together := make([]string, 60)
	var group sync.WaitGroup
	for i := range together {
		group.Add(1)
		go func() {
			defer group.Done()
			together[i], _ = impl.Console(texts[i%len(texts)])
		}()
	}
	group.Wait()
	for i, said := range together {
		if said != alone[i%len(texts)] || said == "" {
			t.Errorf("%d: %q among others, %q alone", i, said, alone[i%len(texts)])
		}
	}
}
