package tests

import (
	"math/rand"
	"slices"
	"strconv"
	"strings"
	"testing"

	"loop.example/g00168/impl"
)

// wantBeginnings asks for promise 9: behind each command, what is said up to it is what its lines say alone, whatever comes later. Lines that end within a file's text are held against the tests' own reading.
func wantBeginnings(t *testing.T, text string) string {
	t.Helper()
	whole := wantConsole(t, text)
	d, _ := consoleByRules(text)
	ahead := ""
	for at := range d.lines {
		said := wantConsole(t, strings.Join(d.lines[:at+1], ""))
		if !slices.Contains(d.ends, at+1) {
			continue
		}
		if !strings.HasPrefix(said, ahead) || !strings.HasPrefix(whole, said) {
			t.Errorf("Console(%.1500q): %d lines say %.900q, one command less %.900q", text, at+1, said, ahead)
		}
		ahead = said
	}
	if ahead != whole {
		t.Errorf("Console(%.1500q) says more than its commands", text)
	}
	return whole
}

func TestBeginningsOfConsoles(t *testing.T) {
	a, m := telling("A"), "MODULE M;\nIMPORT A;\nVAR i: INTEGER;\n\n# no remark\nEND M."
	lines := []string{
		"", "# a session", fileLines(a), fileLines(m), "build M", fileLines("MODULE M; IMPORT A; VAR i: INTEGER; BEGIN READ(i); WRITE(7 DIV i) END M."), "build M", "  build   M", "run M 100 7", "run M 100 0", "run M 100", "run M 3 7", "run M 0",
		"file A", "MODULE A;", "", "# text", "build M", ".", "run M 99 1", "run M x", "run M 20001", "remove Q", "remove A", "remove A", "build M", "go M", "build", "file 9", "build M", ".", "file END", ".", fileLines(a + " "), "build M", "build A", "file B C", "file",
		"file Z", "build M", "# text", "remove M", " .", "run M 1",
	}
	want := "ok\nok\nerror syntax M 37\nok\nbuilt 2 A M\nbuilt 2\n\"A\"\n1\nhalt\n\"A\"\ntrap zero\n\"A\"\ntrap input\n\"A\"\nfuel\nfuel\n" +
		"ok\nerror syntax A 11\nerror form\nerror range\nerror none\nok\nerror none\nerror none A 0\nerror form\nerror form\nerror name\nerror name\nok\nbuilt 2 A\nbuilt 1\nerror form\nerror form\nok\n"
	wantSaid(t, want, lines...)
	text := strings.Join(lines, "\n") + "\n"
	wantBeginnings(t, text)
	wantBeginnings(t, "")
	wantBeginnings(t, "\n\n#\nfile M")
	// As many lines as there may be say no less; with one more nothing is said.
	lines = lineShape.FindAllString(text, -1)
	lines = append(lines, ".\n")
	for len(lines) < 300 {
		lines = append(lines, []string{"build M\n", "x\n", "\n", "run A 9\n"}[len(lines)%4])
	}
	if said := wantConsole(t, strings.Join(lines, "")); !strings.HasPrefix(said, want) || len(said) < len(want)+1000 {
		t.Errorf("300 lines say %.1500q", said)
	}
	wantConsoleFault(t, strings.Join(lines, "")+"x", impl.ErrMany)
}

// spaced has some more blanks.
func spaced(source *rand.Rand, words ...string) string {
	line := strings.Repeat(" ", source.Intn(8)/7)
	for _, word := range words {
		line += word + strings.Repeat(" ", 1+source.Intn(6)/5)
	}
	if source.Intn(6) > 0 {
		line = strings.TrimRight(line, " ")
	}
	return line
}

// wrongLine is one that may be no command.
func wrongLine(source *rand.Rand) string {
	parts := []string{"file", "build", "run", "remove", "M", "A", "END", ".", "#", "#A", "1", "-0", "20001", "x", "é", "\t", "\xff", "A\r", strings.Repeat("N", 41)}
	var words []string
	for range source.Intn(5) {
		words = append(words, parts[source.Intn(len(parts))])
	}
	return spaced(source, words...)
}

// overLines lays a text on several lines.
func overLines(source *rand.Rand, text string) string {
	words := strings.Split(text, " ")
	for i := range words[1:] {
		words[i] += []string{" ", " ", " ", "\n"}[source.Intn(4)]
	}
	return strings.Join(words, "")
}

func randomConsole(source *rand.Rand) string {
	names := []string{"A", "B", "C", "M"}[:1+source.Intn(4)]
	some := func() string { return names[source.Intn(len(names))] }
	written := map[string]string{}
	var lines []string
	add := func(name, text string) {
		written[name] = text
		lines = append(lines, spaced(source, "file", name), text, ".")
	}
	for _, name := range names {
		add(name, overLines(source, moduleText(source, name, names)))
	}
	for range source.Intn(18) {
		name := some()
		switch source.Intn(16) {
		case 0:
			add(name, overLines(source, moduleText(source, name, names)))
		case 1:
			add(name, written[name]+" ")
		case 2:
			add([]string{"END", "1", "K", "L", "M" + strings.Repeat("m", 40)}[source.Intn(5)], written[name]+strings.Repeat("\n"+strings.Repeat(" ", 90), source.Intn(60)))
		case 3:
			lines = append(lines, spaced(source, "remove", name))
		case 4:
			lines = append(lines, []string{"", "   ", "#", "# build M", " #x"}[source.Intn(5)])
		case 5:
			lines = append(lines, wrongLine(source))
		case 6, 7, 8, 9:
			words := []string{"run", name, strconv.Itoa([]int{20000, 20000, 20000, 20, 9, 1, 0, -1, 20001}[source.Intn(9)])}
			for range source.Intn(3) {
				words = append(words, []string{"0", "7", "-65", "66", "01"}[source.Intn(5)])
			}
			lines = append(lines, spaced(source, words...))
		default:
			lines = append(lines, spaced(source, "build", names[source.Intn(1+source.Intn(len(names)))]))
		}
	}
	return strings.Join(lines, "\n") + strings.Repeat("\n", source.Intn(2))
}

// Promise 9, of consoles that are made up.
func TestRandomConsoles(t *testing.T) {
	source := rand.New(rand.NewSource(35))
	met := map[string]int{}
	for range 150 {
		for line := range strings.Lines(wantBeginnings(t, randomConsole(source))) {
			words := strings.Fields(line)
			met[strings.Join(words[:min(2, len(words))], " ")]++
		}
		if t.Failed() {
			return
		}
	}
	for _, words := range []string{"ok", "error form", "error name", "error size", "error none", "error range", "error cycle", "error syntax", "built 2", "built 4", "halt", "fuel"} {
		if met[words] < 5 {
			t.Errorf("so many say %q: %v", words, met)
		}
	}
}

// Bytes that are no text of a command.
func TestStrangeConsoles(t *testing.T) {
	source := rand.New(rand.NewSource(36))
	for range 3000 {
		var lines []string
		for range source.Intn(8) {
			if source.Intn(2) == 0 {
				lines = append(lines, wrongLine(source))
			} else {
				lines = append(lines, randomText(source, 8))
			}
		}
		wantConsole(t, strings.Join(lines, "\n"))
	}
	var all []byte
	for c := range 256 {
		all = append(all, byte(c))
	}
	for _, text := range []string{string(all), "file M\n" + string(all) + "\n.\nbuild M", strings.Repeat(string(all), 200), "build " + string(all), "run M 9 " + string(all)} {
		wantConsole(t, text)
	}
	for c := range 256 {
		for _, text := range []string{"%", "file %", "file A%", "file% A", "%file A", "build M%", "build %", "build% M", "%build M", "run M 9%", "run M %", "run M 9 %7", "run M 9 7%", "run M 9 7%8"} {
			wantConsole(t, "file M\nMODULE M; VAR i: INTEGER; BEGIN READ(i); WRITE(i) END M.\n.\n"+strings.Replace(text, "%", string([]byte{byte(c)}), 1)+"\nx\n.\nbuild M\n")
		}
	}
}

// printed are the texts of sources; it is false where one is longer than a source may be, or has more than Parse takes.
func printed(t *testing.T, list []impl.Source) ([]string, bool) {
	t.Helper()
	var texts []string
	for _, s := range list {
		text, code := impl.Print(s.Tree)
		if code != impl.OK {
			t.Fatal("Print: code", code)
		}
		_, code, _ = impl.Parse(text)
		if len(text) > impl.MaxSource || code == impl.ErrMany || code == impl.ErrDeep {
			return nil, false
		}
		texts = append(texts, text)
	}
	return texts, true
}

// wantTheorem asks for promise 10 of sources of which M is main, and answers how they end; it is false where the promise promises nothing.
func wantTheorem(t *testing.T, list []impl.Source, input []int) (impl.Result, bool) {
	t.Helper()
	texts, ok := printed(t, list)
	if !ok {
		return impl.Result{}, false
	}
	var acts []impl.BuildAct
	for i, text := range texts {
		acts = append(acts, write(list[i].Name, text))
	}
	_, _, builds, code := impl.RunBuilder(append(acts, build("M"), build("M")))
	if code != impl.OK || len(builds) != 2 || !sameButMade(builds[0], builds[1]) || len(builds[1].Made) > 0 && builds[1].Code == impl.OK {
		t.Fatalf("%.1500q: code %d, %.900v", texts, code, builds)
	}
	if builds[0].Code == impl.ErrSize {
		return impl.Result{}, false
	}
	order, _ := impl.Order(list, "M")
	if builds[0].Code != impl.OK || !slices.Equal(builds[0].Made, order) {
		t.Fatalf("%.1500q: %.900v, the order is %v", texts, builds[0], order)
	}
	evaluated, code := impl.Evaluate(list, "M", input, impl.MaxFuel)
	run, ran := impl.Run(builds[1].Image, input, impl.MaxFuel)
	if code != impl.OK || ran != impl.OK {
		t.Fatal("codes", code, ran)
	}
	if run.End == impl.EnFuel || evaluated.End == impl.EnFuel {
		return impl.Result{End: impl.EnFuel}, true
	}
	if run.End != evaluated.End || run.Trap != evaluated.Trap || !slices.Equal(run.Out, evaluated.Out) {
		t.Errorf("%.3000q: run %.600v, evaluated %.600v", texts, run, evaluated)
	}
	return evaluated, wantTheoremSaid(t, texts, builds, input, evaluated)
}

// wantTheoremSaid has a console write the texts, build them twice and run them; it is false if they have too many lines for one.
func wantTheoremSaid(t *testing.T, texts []string, builds []impl.Built, input []int, r impl.Result) bool {
	t.Helper()
	var lines []string
	want := strings.Repeat("ok\n", len(texts))
	for _, text := range texts {
		lines = append(lines, "file "+filesOf(text)[0].Name, text+".")
	}
	numbers := "20000"
	for _, n := range input {
		numbers += " " + strconv.Itoa(n)
	}
	text := strings.Join(append(lines, "build M", "build M", "run M "+numbers, "run M "+numbers), "\n")
	if strings.Count(text, "\n") > 299 {
		return false
	}
	for _, b := range builds {
		line, _ := impl.BuiltText(b)
		want += line
	}
	told, _ := impl.OutText(r.Out)
	end, _ := impl.EndText(r)
	if said, code := impl.Console(text); code != impl.OK || said != want+told+end+told+end {
		t.Errorf("Console(%.3000q): code %d, %.1500q, want %.1500q", text, code, said, want+told+end+told+end)
	}
	return true
}

// Promise 10: printed, written, built, kept, built again and run, modules do what their trees do.
func TestTheoremOfTheChain(t *testing.T) {
	for _, c := range []struct {
		texts     []string
		input     []int
		end, trap int
		told      string
	}{
		{[]string{"MODULE M; END M."}, nil, impl.EnHalt, 0, ""},
		{[]string{telling("M", "A", "B"), telling("A", "B"), telling("B")}, nil, impl.EnHalt, 0, "\"B\"\n\"A\"\n\"M\"\n"},
		{[]string{moduleA, "MODULE M; IMPORT A; VAR i: INTEGER; c: CHAR; BEGIN READ(i); WHILE i > 0 DO WRITE(A.F(i)); i := i - 5 END; A.S(c, FALSE); WRITE(c) END M."}, []int{3, 65}, impl.EnHalt, 0, "\"A\"\n8\n\"A\"\n"},
		{[]string{moduleA, "MODULE M; IMPORT A; VAR c: CHAR; BEGIN A.S(c, FALSE); WRITE(c); A.S(c, FALSE) END M."}, []int{65}, impl.EnTrap, impl.TrInput, "\"A\"\n\"A\"\n"},
		{[]string{"MODULE M; VAR i: INTEGER; BEGIN READ(i); IF (i > 0) & (9 DIV i = 9) OR ~(i = 0) THEN WRITE(i) ELSIF i = 0 THEN WRITE(9 MOD i) END END M."}, []int{0}, impl.EnTrap, impl.TrZero, ""},
		{[]string{"MODULE M; VAR v: ARRAY 3 OF CHAR; i: INTEGER; BEGIN WHILE TRUE DO v[i] := CHR(i + 34); WRITE(v[i]); i := i + 1 END END M."}, nil, impl.EnTrap, impl.TrIndex, "022X\n\"#\"\n\"$\"\n"},
		{[]string{"MODULE M; BEGIN WRITE(- -5 - (3 - 9)); WRITE(CHR(55295 + 1)) END M."}, nil, impl.EnTrap, impl.TrChar, "11\n"},
		{[]string{"MODULE M; PROCEDURE F(n: INTEGER): INTEGER; BEGIN IF n < 2 THEN RETURN n END; WRITE(F(n - 1)) END F; BEGIN WRITE(F(2)) END M."}, nil, impl.EnTrap, impl.TrResult, "1\n"},
		{[]string{"MODULE M; PROCEDURE F(n: INTEGER); BEGIN IF n MOD 20 = 0 THEN WRITE(n) END; F(n + 1) END F; BEGIN F(1) END M."}, nil, impl.EnRoom, 0, "20\n40\n"},
		{[]string{"MODULE M; VAR i: INTEGER; BEGIN WHILE TRUE DO WRITE(i = 3) END END M."}, nil, impl.EnRoom, 0, strings.Repeat("FALSE\n", 1000)},
		{[]string{"MODULE M; BEGIN WHILE TRUE DO END END M."}, nil, impl.EnFuel, 0, ""},
	} {
		r, ok := wantTheorem(t, sourcesOf(t, c.texts...), c.input)
		told, code := impl.OutText(r.Out)
		if !ok || code != impl.OK || r.End != c.end || r.Trap != c.trap || told != c.told {
			t.Errorf("%.900q: %v, %v", c.texts, ok, r)
		}
	}
}

// Promise 10, of modules that are drawn.
func TestTheoremOfDrawnModules(t *testing.T) {
	source := rand.New(rand.NewSource(37))
	ends := map[[2]int]int{}
	said := 0
	plain := sourcesOf(t, moduleA, "MODULE B; BEGIN WRITE(5) END B.")
	for range 1500 {
		list := withDrawn(source, plain, checkedModule(source))
		if !impl.SourcesOK(list, "M") {
			continue
		}
		r, ok := wantTheorem(t, list, drawnInput(source))
		if ok {
			said++
		}
		if r.End != 0 {
			ends[[2]int{r.End, r.Trap}]++
		}
		if t.Failed() {
			return
		}
	}
	wantEnds(t, ends)
	if said < 300 {
		t.Error("so many are said by consoles, and end so:", said, ends)
	}
}
