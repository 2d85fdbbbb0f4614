package tests

import (
	"math"
	"math/big"
	"regexp"
	"slices"
	"strconv"
	"strings"
	"testing"

	"loop.example/g00168/impl"
)

var (
	lineShape   = regexp.MustCompile(`[^\n]*\n|[^\n]+`)
	wordShape   = regexp.MustCompile(`[^ ]+`)
	numberShape = regexp.MustCompile(`^(0|-?[1-9][0-9]{0,17})$`)
)

// endLine is a reading of EndText of the tests' own.
func endLine(r impl.Result) (string, int) {
	trap, traps := map[int]string{1: "zero", 2: "index", 3: "char", 4: "input", 5: "result"}[r.Trap]
	text, ends := map[int]string{1: "halt", 2: "trap " + trap, 3: "fuel", 4: "room"}[r.End]
	if !ends || traps && r.End != 2 || !traps && r.End == 2 {
		return "", impl.ErrBad
	}
	return text + "\n", impl.OK
}

// builtLine is a reading of BuiltText of the tests' own.
func builtLine(b impl.Built) (string, int) {
	right := b.Code >= 0 && b.Code < len(documentCodes) && len(b.Made) <= 20
	for _, name := range append([]string{b.Module}, b.Made...) {
		right = right && len(name) <= 40
	}
	if !right {
		return "", impl.ErrBad
	}
	if b.Code > 0 {
		return "error " + documentCodes[b.Code].word + " " + b.Module + " " + big.NewInt(int64(b.Place)).String() + "\n", impl.OK
	}
	text := "built " + strconv.Itoa(len(b.Image.Procs))
	for _, name := range b.Made {
		text += " " + name
	}
	return text + "\n", impl.OK
}

// desk is a reading of consoles of the tests' own.
type desk struct {
	*site
	lines []string
	said  string
	ends  []int // behind how many lines each command ends
}

func consoleByRules(text string) (*desk, int) {
	d := &desk{site: &site{texts: map[string]string{}, hits: map[string]int{}}, lines: lineShape.FindAllString(text, -1)}
	if len(text) > 65536 {
		return d, impl.ErrLong
	}
	if len(d.lines) > 300 {
		return d, impl.ErrMany
	}
	for at := 0; at < len(d.lines); at++ {
		words := wordShape.FindAllString(strings.TrimSuffix(d.lines[at], "\n"), -1)
		switch {
		case len(words) == 0 || words[0][0] == '#':
		case len(words) == 2 && words[0] == "file":
			end := at + 1
			for end < len(d.lines) && strings.TrimSuffix(d.lines[end], "\n") != "." {
				end++
			}
			d.said += d.filed(words[1], d.lines[at+1:end])
			at = end
		case len(words) < 2 || !textFits(words[1], "own"):
			d.said += "error form\n"
		default:
			d.said += d.commanded(words[0], words[1], words[2:])
		}
		d.ends = append(d.ends, min(at+1, len(d.lines)))
	}
	return d, impl.OK
}

func (d *desk) filed(name string, lines []string) string {
	text := ""
	for _, line := range lines {
		text += strings.TrimSuffix(line, "\n") + "\n"
	}
	_, there := d.texts[name]
	switch {
	case !textFits(name, "own"):
		return "error name\n"
	case len(text) > 4000:
		return "error size\n"
	case !there && len(d.texts) == 10:
		return "error many\n"
	}
	d.texts[name] = text
	return "ok\n"
}

func (d *desk) commanded(command, name string, rest []string) string {
	switch {
	case command == "remove" && len(rest) == 0:
		if _, there := d.texts[name]; !there {
			return "error none\n"
		}
		delete(d.texts, name)
		return "ok\n"
	case command == "build" && len(rest) == 0:
		_, text := d.built(name)
		return text
	case command == "run" && len(rest) > 0:
		return d.ran(name, rest)
	}
	return "error form\n"
}

func (d *desk) built(name string) (impl.Built, string) {
	built, entries := buildByRules(d.files(), d.entries, name)
	d.entries = entries
	text, _ := builtLine(built)
	return built, text
}

func (d *desk) ran(name string, texts []string) string {
	var numbers []int
	for _, text := range texts {
		if !numberShape.MatchString(text) {
			return "error form\n"
		}
		n, _ := strconv.Atoi(text)
		numbers = append(numbers, n)
	}
	if numbers[0] < 0 || numbers[0] > 20000 || len(numbers) > 101 {
		return "error range\n"
	}
	built, text := d.built(name)
	if built.Code != impl.OK {
		return text
	}
	r := runByRules(built.Image, numbers[1:], numbers[0])
	text = ""
	for _, out := range r.Out {
		line, _ := lineOf(out)
		text += line + "\n"
	}
	end, _ := endLine(r)
	return text + end
}

// wantConsole holds Console against the tests' own reading, and answers what it says.
func wantConsole(t *testing.T, text string) string {
	t.Helper()
	said, code := impl.Console(text)
	d, wantCode := consoleByRules(text)
	if code != wantCode || said != d.said {
		t.Errorf("Console(%.1500q): code %d, %.1500q, want %d, %.1500q", text, code, said, wantCode, d.said)
	}
	return said
}

// wantSaid asks what lines are answered, with and without a byte 10 behind the last one.
func wantSaid(t *testing.T, want string, lines ...string) {
	t.Helper()
	text := strings.Join(lines, "\n")
	for _, text := range []string{text + "\n", text} {
		if said := wantConsole(t, text); said != want {
			t.Errorf("Console(%.1500q) says %.1500q, want %.1500q", text, said, want)
		}
	}
}

func wantConsoleFault(t *testing.T, text string, code int) {
	t.Helper()
	wantConsole(t, text)
	if said, got := impl.Console(text); got != code || code != impl.OK && said != "" {
		t.Errorf("Console of %d bytes: code %d, want %d; %.300q", len(text), got, code, said)
	}
}

// fileLines are those of the command that writes a file of the name that stands second in its text.
func fileLines(text string) string {
	return "file " + filesOf(text)[0].Name + "\n" + text + "\n."
}

func TestEndText(t *testing.T) {
	for _, c := range []struct {
		end, trap int
		want      string
	}{
		{impl.EnHalt, 0, "halt\n"}, {impl.EnFuel, 0, "fuel\n"}, {impl.EnRoom, 0, "room\n"},
		{impl.EnTrap, impl.TrZero, "trap zero\n"}, {impl.EnTrap, impl.TrIndex, "trap index\n"}, {impl.EnTrap, impl.TrChar, "trap char\n"}, {impl.EnTrap, impl.TrInput, "trap input\n"}, {impl.EnTrap, impl.TrResult, "trap result\n"},
		{impl.EnTrap, 0, ""}, {impl.EnTrap, 6, ""}, {impl.EnTrap, -1, ""}, {impl.EnHalt, 1, ""}, {impl.EnHalt, 5, ""}, {impl.EnFuel, 3, ""}, {impl.EnRoom, 2, ""},
		{0, 0, ""}, {5, 0, ""}, {-1, 0, ""}, {0, 1, ""}, {5, 1, ""}, {-1, 5, ""},
	} {
		text, code := impl.EndText(impl.Result{End: c.end, Trap: c.trap})
		if text != c.want || (code == impl.OK) != (c.want != "") {
			t.Errorf("EndText of %d, %d: %q, code %d, want %q", c.end, c.trap, text, code, c.want)
		}
	}
	numbers := []int{math.MinInt, -1 << 32, -2, -1, 0, 1, 2, 3, 4, 5, 6, 7, 255, 256, 257, 258, 1<<32 + 1, 1<<32 + 2, math.MaxInt}
	for _, end := range numbers {
		for _, trap := range numbers {
			want, wantCode := endLine(impl.Result{End: end, Trap: trap})
			for _, r := range []impl.Result{{End: end, Trap: trap}, {End: end, Trap: trap, Used: -1, Out: []impl.Out{{}, {Type: 9, Value: 9}}}, {End: end, Trap: trap, Used: math.MaxInt, Out: make([]impl.Out, 5000)}} {
				if text, code := impl.EndText(r); text != want || code != wantCode {
					t.Errorf("EndText of %d, %d: %q, code %d, want %q, %d", end, trap, text, code, want, wantCode)
				}
			}
		}
	}
}

func wantBuiltText(t *testing.T, b impl.Built) string {
	t.Helper()
	before := copyBuilt(b)
	text, code := impl.BuiltText(b)
	want, wantCode := builtLine(b)
	if text != want || code != wantCode {
		t.Errorf("BuiltText(%.600v): %q, code %d, want %q, %d", b, text, code, want, wantCode)
	}
	if !sameBuilt(b, before) {
		t.Errorf("an argument is changed: %.600v", before)
	}
	return text
}

func TestBuiltText(t *testing.T) {
	procs := func(many int) impl.Image { return impl.Image{Procs: make([]impl.Code, many)} }
	for _, c := range []struct {
		b    impl.Built
		want string
	}{
		{impl.Built{}, "built 0\n"},
		{impl.Built{Image: procs(3), Made: []string{"A", "M"}}, "built 3 A M\n"},
		{impl.Built{Image: procs(1200), Module: "M", Place: 7}, "built 1200\n"},
		{impl.Built{Image: procs(1), Made: []string{""}}, "built 1 \n"},
		{impl.Built{Image: procs(1), Made: []string{"", "", "x"}}, "built 1   x\n"},
		{impl.Built{Code: impl.ErrType, Place: 4, Module: "M", Made: []string{"A"}, Image: procs(5)}, "error type M 4\n"},
		{impl.Built{Code: impl.ErrNone}, "error none  0\n"},
		{impl.Built{Code: impl.ErrSum, Module: "a b\n", Place: -3}, "error sum a b\n -3\n"},
		{impl.Built{Code: impl.ErrCycle, Module: "M", Place: math.MinInt}, "error cycle M -9223372036854775808\n"},
		{impl.Built{Code: impl.ErrBad, Module: "M", Place: math.MaxInt}, "error bad M 9223372036854775807\n"},
		{impl.Built{Code: -1}, ""}, {impl.Built{Code: 19}, ""}, {impl.Built{Code: math.MaxInt}, ""},
	} {
		if got := wantBuiltText(t, c.b); got != c.want {
			t.Errorf("BuiltText(%.300v): %q, want %q", c.b, got, c.want)
		}
	}
	for _, code := range []int{math.MinInt, -2, -1, 0, 1, 2, 3, 4, 5, 6, 7, 8, 9, 10, 11, 12, 13, 14, 15, 16, 17, 18, 19, 20, 256, 1 << 32, 1<<32 + 5, math.MaxInt} {
		wantBuiltText(t, impl.Built{Code: code, Module: "M", Place: 12, Made: []string{"A"}})
	}
}

func TestBoundsOfBuiltText(t *testing.T) {
	full, more := strings.Repeat("é", 20), strings.Repeat("é", 20)+"x"
	for _, code := range []int{impl.OK, impl.ErrSyntax} {
		for _, name := range []string{"", "x", "END", "1", full[:39], full, more, strings.Repeat("N", 40), strings.Repeat("N", 41), strings.Repeat("N", 1<<20)} {
			right := len(name) <= 40
			for _, b := range []impl.Built{{Code: code, Module: name}, {Code: code, Made: []string{name}}, {Code: code, Made: []string{"A", name, "B"}}, {Code: code, Module: "M", Made: append(slices.Repeat([]string{"A"}, 19), name)}} {
				if text := wantBuiltText(t, b); (text != "") != right {
					t.Errorf("a name of %d bytes: %q", len(name), text)
				}
			}
		}
		for _, many := range []int{0, 1, 19, 20, 21, 22, 256, 5000} {
			if text := wantBuiltText(t, impl.Built{Code: code, Module: "M", Made: slices.Repeat([]string{full}, many)}); (text != "") != (many <= 20) {
				t.Errorf("%d made: %q", many, text)
			}
		}
	}
}

func TestLinesOfConsoles(t *testing.T) {
	if impl.MaxLines != 300 {
		t.Error("MaxLines:", impl.MaxLines)
	}
	one := "error form\n"
	for text, many := range map[string]int{"": 0, "\n": 0, "\n\n": 0, "x": 1, "x\n": 1, "\nx": 1, "x\n\n": 1, "x\n\nx": 2, "x\nx\n": 2, "\n\nx\n\n\nx\n\n": 2, "x\n ": 1, "   \nx\n  \n": 1, "x\r\nx\r": 2, "x\n\x00": 2} {
		if said := wantConsole(t, text); said != strings.Repeat(one, many) {
			t.Errorf("Console(%q) says %q", text, said)
		}
	}
	for _, line := range []string{"x", "", " ", "#", "# x", "build M", "x y", strings.Repeat("x", 100), "file A", "."} {
		lines := strings.Repeat(line+"\n", 300)
		wantConsoleFault(t, lines, impl.OK)
		wantConsoleFault(t, lines[:len(lines)-1], impl.OK)
		wantConsoleFault(t, lines+"\n", impl.ErrMany)
		wantConsoleFault(t, lines+" ", impl.ErrMany)
		wantConsoleFault(t, lines+"#", impl.ErrMany)
		wantConsoleFault(t, "\n"+lines, impl.ErrMany)
		wantConsoleFault(t, lines+lines, impl.ErrMany)
	}
	// Lines of a file's text count as others do, whether its end stands behind them or not.
	for _, c := range []struct{ many, code int }{{298, impl.OK}, {299, impl.ErrMany}, {1000, impl.ErrMany}} {
		wantConsoleFault(t, "file A\n"+strings.Repeat("\n", c.many)+".\n", c.code)
		wantConsoleFault(t, "file A\n"+strings.Repeat("\n", c.many)+".", c.code)
		wantConsoleFault(t, "file A\n\n"+strings.Repeat("\n", c.many), c.code)
	}
	wantConsoleFault(t, "file A\n\n"+strings.Repeat("\n", 297)+"x", impl.OK)
	wantConsoleFault(t, "file A\n\n"+strings.Repeat("\n", 298)+"x", impl.ErrMany)
}

func TestTextsTooLongForConsoles(t *testing.T) {
	for _, c := range []struct{ length, code int }{{65535, impl.OK}, {65536, impl.OK}, {65537, impl.ErrLong}, {65538, impl.ErrLong}, {1 << 20, impl.ErrLong}} {
		for _, byteOf := range []string{"x", " ", "#", "\x00", "\xff"} {
			wantConsoleFault(t, strings.Repeat(byteOf, c.length), c.code)
			wantConsoleFault(t, "build M\n"+strings.Repeat(byteOf, c.length-8), c.code)
		}
		wantConsoleFault(t, strings.Repeat("x ", c.length)[:c.length], c.code)
		// ErrLong comes ahead of ErrMany.
		many := max(c.code, impl.ErrLong)
		if c.code == impl.OK {
			many = impl.ErrMany
		}
		wantConsoleFault(t, strings.Repeat("\n", c.length), many)
		wantConsoleFault(t, strings.Repeat("#\n", 301)+strings.Repeat("x", c.length-602), many)
	}
}

func TestWordsOfConsoles(t *testing.T) {
	m := "MODULE M; END M."
	written := func(want string, lines ...string) {
		t.Helper()
		wantSaid(t, "ok\n"+want, append([]string{fileLines(m)}, lines...)...)
	}
	for _, line := range []string{"build M", " build M", "build  M", "build M ", "   build     M   "} {
		written("built 1 M\n", line)
	}
	for _, line := range []string{" run M 9", "run  M  9 ", "  run M 9  ", "run   M   9"} {
		written("halt\n", line)
	}
	written("ok\nerror none\n", " remove  M ", "remove   M")
	// Other bytes that look like blanks are none.
	for _, blank := range []string{"\t", "\r", "\v", "\f", "\x00", "\u00a0", "\u2003", "\u0085", "\xa0", "\xff"} {
		for _, line := range []string{"build" + blank + "M", blank + "build M", "build M" + blank, "build " + blank + "M", "build " + blank + " M", "remove M" + blank, blank + "remove M", "run M 9" + blank, "run M" + blank + "9", "run M " + blank + "9", "run M 9 " + blank, blank, blank + " " + blank, "x " + blank} {
			written("error form\n", line)
		}
		wantSaid(t, "error name\nerror form\n", "file A"+blank, "x", ".", "x")
		wantSaid(t, "error name\nerror form\n", "file "+blank, "x", ".", "x")
		wantSaid(t, "error form\nerror form\nok\n", blank+"file A", ".", "file A", "x")
		wantSaid(t, "error form\nerror form\n", "file"+blank+"A", ".")
	}
	for _, line := range []string{"Build M", "BUILD M", "builds M", "buil M", "b M", "M build", "build", "build M M", "build M 1", "build .", "build", "run", "remove", "file", "file A B", "file A B C", "remove M M", "run M", "error form", "ok", ".", ". .", "go M", "\"build\" M", "build \"M\"", "build M.", "build M;"} {
		written("error form\n", line)
	}
}

func TestRemarksOfConsoles(t *testing.T) {
	for _, line := range []string{"#", "##", "# x", "#x", "#x y z", "  #", "  # build M", "#build M", "#file A", "# file A", "   ##  ", "#\t", "#\xff", "", " ", "     "} {
		wantSaid(t, "", line)
		wantSaid(t, "error form\nerror form\n", "x", line, "x")
		wantSaid(t, "error none M 0\n", line, "build M", line)
	}
	for _, line := range []string{"x#", "x #", "x # y", "build #", "build #M", "build M #", "build M# M", "remove # M", "run M 1 #", "run # 1", "file A #", "file # A", "file #A B", "\t#", "\xff#", ".#", ". #"} {
		wantSaid(t, "error form\n", line)
	}
	wantSaid(t, "error name\nerror form\n", "file #", "x", "y", ".", "x")
	wantSaid(t, "error name\n", "file #A", "# x", ".", "# x")
	wantSaid(t, "error form\nerror form\n", "file# A", "x")
}

// strangeNames are no names of files.
func strangeNames() []string {
	return append(strings.Fields(documentKeys), "1", "9A", "A.B", "A-", "é", "M\x00", "\xff", "*", ".", "..", "#", "A\t", strings.Repeat("N", 41), strings.Repeat("N", 4000))
}

func TestFilesOfConsoles(t *testing.T) {
	m := "MODULE M; BEGIN WRITE(1) END M."
	wantSaid(t, "ok\nbuilt 1 M\n1\nhalt\n", "file M", m, ".", "build M", "run M 9")
	wantSaid(t, "ok\nbuilt 1 M\n1\nhalt\n", "file M", "", "MODULE M", ";", "", "BEGIN  ", "WRITE(", "1)", "END", "M .", "", ".", "build M", "run M 9")
	wantSaid(t, "ok\nerror form\nerror syntax M 37\n", "file M", "", "MODULE M", ";", "", "BEGIN  ", "WRITE(", "1)", "END", "M", ".", "", ".", "build M") // here a module's own `.` ends the text
	wantSaid(t, "ok\nok\nbuilt 1 M\nbuilt 1\n2\nhalt\n", "file M", m, ".", "file M", "MODULE M;", "BEGIN", "  WRITE(2)", "END M.", ".", "build M", "build M", "run M 99")
	wantSaid(t, "ok\nbuilt 1 M\nok\nbuilt 1\nok\nbuilt 1 M\n", "file M", m, ".", "build M", "file M", m, ".", "build M", "file M", m+" ", ".", "build M")
	// Each name that is right, and none other; the lines belong to the file in any case.
	for _, name := range []string{"A", "_", "z9", "End", "end", "ENDS", "file", "build", "run", "remove", "ok", "error", strings.Repeat("N", 40)} {
		wantSaid(t, "ok\nbuilt 1 "+name+"\nok\nerror none\nerror none "+name+" 0\n", "file "+name, "MODULE "+name+"; END "+name+".", ".", "build "+name, "remove "+name, "remove "+name, "build "+name)
	}
	for _, name := range strangeNames() {
		wantSaid(t, "error name\nerror form\n", "file "+name, "build A", "file A", ".", "x")
		wantSaid(t, "error name\n", "file "+name)
		wantSaid(t, "error form\nerror form\nerror none A 0\n", "file "+name+" A", "remove "+name, "build A")
		for _, command := range []string{"remove", "build", "run", "go"} {
			wantSaid(t, "error form\n", command+" "+name)
			wantSaid(t, "error form\n", command+" "+name+" 7")
		}
	}
	// With one word, or with three, it takes no lines.
	wantSaid(t, "error form\nerror none A 0\nerror form\n", "file", "build A", ".")
	wantSaid(t, "error form\nerror none A 0\nerror form\n", "file A B", "build A", ".")
	wantSaid(t, "error form\nerror none A 0\nerror form\n", "file A 1", "build A", ".")
	wantSaid(t, "error form\nok\n", "file A .", "file A", "build A", ".")
}

func TestEndsOfFiles(t *testing.T) {
	m := "MODULE M; END M."
	// Without a line `.` all that is left belongs to the file.
	wantSaid(t, "ok\n", "file M", m, "build M", "file A", "x", "remove M", "# x")
	wantSaid(t, "ok\n", "file M")
	wantSaid(t, "ok\n", "file M", "")
	wantSaid(t, "ok\nerror syntax M 0\n", "file M", ".", "build M")
	wantSaid(t, "ok\nerror syntax M 1\n", "file M", "", ".", "build M")
	wantSaid(t, "ok\nerror syntax M 3\n", "file M", "", "", "", ".", "build M")
	wantSaid(t, "ok\nerror form\nbuilt 1 M\n", "file M", m, ".", ".", "build M")
	wantSaid(t, "ok\nok\nok\nerror none A 0\n", "file M", m, ".", "file A", "MODULE A;", ".", "remove A", "build A")
	// With anything beside it the line is text.
	for _, c := range []struct {
		line  string
		place int // of the first token that is none of a module
	}{{" .", 1}, {". ", 0}, {" . ", 1}, {"..", 0}, {".\t", 0}, {"\t.", 1}, {".\r", 0}, {". .", 0}, {".#", 0}, {"#.", 0}, {".x", 0}, {"", 1}, {" ", 2}, {"# .", 0}, {"file A", 0}, {"file .", 0}, {"x .", 0}} {
		wantSaid(t, "ok\n", "file M", c.line, "build M")
		wantSaid(t, "ok\nok\nerror form\n", "file M", c.line, "build M", ".", "file A", c.line, "x", ".", "x")
		wantSaid(t, "ok\nerror syntax M "+strconv.Itoa(c.place)+"\n", "file M", c.line, ".", "build M")
	}
	// The line of the end may itself be without an end.
	if said := wantConsole(t, "file M\nx\n."); said != "ok\n" {
		t.Errorf("a last line `.`: %q", said)
	}
	// Each line has a byte 10, the last one too: a place behind it tells so.
	wantSaid(t, "ok\nerror syntax M 9\n", "file M", "MODULE M", ".", "build M")
	wantSaid(t, "ok\nerror syntax M 22\n", "file M", "MODULE M;", "(* x *)", "END", ".", "build M", "#")
	wantSaid(t, "ok\nerror syntax M 10\n", "file M", "MODULE M; (* ", "build M", ".", "build M")
}

func TestSizesOfFiles(t *testing.T) {
	m := "MODULE M; END M."
	padded := func(length int) string { return m + strings.Repeat(" ", length-1-len(m)) } // its byte 10 apart
	for _, length := range []int{3998, 3999, 4000} {
		wantSaid(t, "ok\nbuilt 1 M\n", "file M", padded(length), ".", "build M")
		wantSaid(t, "ok\nbuilt 1 M\n", "file M", m, strings.Repeat(" ", length-2-len(m)), ".", "build M")
		wantSaid(t, "ok\n", "file M", padded(length))
	}
	for _, length := range []int{4001, 4002, 8000, 65000} {
		wantSaid(t, "error size\nerror none M 0\n", "file M", padded(length), ".", "build M")
		wantSaid(t, "error size\nerror none M 0\n", "file M", m, strings.Repeat(" ", length-2-len(m)), ".", "build M")
		wantSaid(t, "error size\n", "file M", padded(length), "build M", "file A")
		// The one that is there stays, and so does its object.
		wantSaid(t, "ok\nbuilt 1 M\nerror size\nbuilt 1\n", "file M", m, ".", "build M", "file M", padded(length), ".", "build M")
		// No name comes ahead of too long.
		wantSaid(t, "error name\n", "file END", padded(length), ".")
	}
	lines := strings.Repeat(strings.Repeat(" ", 39)+"\n", 99)
	wantSaid(t, "ok\nbuilt 1 M\n", "file M", lines+padded(40), ".", "build M")
	wantSaid(t, "error size\nerror none M 0\n", "file M", lines+padded(41), ".", "build M")
}

func TestManyFilesOfConsoles(t *testing.T) {
	var ten []string
	for at := range 10 {
		ten = append(ten, fileLines(telling(string(rune('J'-at)))))
	}
	oks := strings.Repeat("ok\n", 10)
	said := func(want string, lines ...string) {
		t.Helper()
		wantSaid(t, oks+want, append(slices.Clone(ten), lines...)...)
	}
	said("error many\nerror none K 0\n", fileLines(telling("K")), "build K")
	said("error many\n", "file K")
	said("error many\n", "file K", "build A", "# x")
	said("ok\nbuilt 2 B A\n", fileLines(telling("A", "B")), "build A")
	said("ok\nok\nbuilt 1 K\nerror many\n", "remove C", fileLines(telling("K")), "build K", fileLines(telling("C")))
	said("error none\nerror many\n", "remove K", fileLines(telling("K")))
	long := strings.Repeat("x", 4000)
	said("error name\nerror name\nerror size\nerror size\nerror many\n", "file END", long, ".", "file 1", ".", "file K", long, ".", "file A", long, ".", "file K", long[1:], ".")
	wantSaid(t, strings.Repeat("ok\n", 9)+"error name\nerror size\nok\nerror many\n", append(slices.Clone(ten[1:]), "file IF", ".", "file J", long, ".", "file J", ".", "file K", ".")...)
}

func TestRemovedFiles(t *testing.T) {
	a, m := telling("A"), telling("M", "A")
	wantSaid(t, "error none\n", "remove M")
	wantSaid(t, "ok\nok\nerror none\nerror none M 0\n", fileLines(m), "remove M", "remove M", "build M")
	wantSaid(t, "ok\nok\nbuilt 2 A M\nok\nerror none A 0\nerror none A 0\nok\nbuilt 2\n", fileLines(a), fileLines(m), "build M", "remove A", "build M", "run M 9", fileLines(a), "build M")
	wantSaid(t, "ok\nerror none\nerror none\nerror none\nok\n", fileLines(a), "remove M", "remove a", "remove AA", "remove A")
	wantSaid(t, "ok\nerror form\nerror form\nerror form\nerror form\nok\n", fileLines(a), "remove", "remove A A", "remove A 1", "removes A", "remove A")
}

func TestBuildsOfConsoles(t *testing.T) {
	a, m := "MODULE A; CONST k* = 1; END A.", "MODULE M; IMPORT A; BEGIN WRITE(A.k) END M."
	wantSaid(t, "ok\nok\nbuilt 2 A M\nbuilt 2\nbuilt 1\n", fileLines(a), fileLines(m), "build M", "build M", "build A")
	wantSaid(t, "ok\nok\nbuilt 1 A\nbuilt 2 M\n", fileLines(a), fileLines(m), "build A", "build M")
	wantSaid(t, "ok\nok\nbuilt 2 A M\nok\nbuilt 2 A\nok\nbuilt 2 A M\n", fileLines(a), fileLines(m), "build M", fileLines(a+" "), "build M", fileLines("MODULE A; CONST k* = 2; END A."), "build M")
	// What was made ahead of a fault is kept; each fault has its module and place.
	wantSaid(t, "ok\nok\nerror name M 4\nok\nbuilt 2 M\n", fileLines(a), fileLines("MODULE M; IMPORT A; BEGIN WRITE(A.j) END M."), "build M", fileLines(m), "build M")
	wantSaid(t, "ok\nerror none A 0\nok\nerror cycle A 0\nerror cycle M 0\nok\nerror name A 0\nok\nerror syntax A 0\n", fileLines(m), "build M",
		fileLines("MODULE A; IMPORT M; END A."), "build A", "build M", "file A", a[:7]+"B; END B.", ".", "build M", "file A", "MODUL", ".", "build M")
	wantSaid(t, "ok\nerror type M 5\nerror type M 5\n", fileLines("MODULE M; BEGIN WRITE(1 + TRUE) END M."), "build M", "run M 5")
	// A run builds, too, and tells nothing of it.
	wantSaid(t, "ok\nok\n1\nhalt\nbuilt 2\nok\n2\nhalt\nbuilt 2\nok\n2\nhalt\nbuilt 2\n", fileLines(a), fileLines(m), "run M 9", "build M", fileLines("MODULE A; CONST k* = 2; END A."), "run M 9", "build M", fileLines(m+" "), "run M 9", "build M")
	wantSaid(t, "ok\nerror none A 0\nok\n1\nhalt\n", fileLines(m), "run M 9", fileLines(a), "run M 9")
	// One that has no numbers to run with builds nothing.
	wantSaid(t, "ok\nerror range\nerror form\nerror form\nerror range\nbuilt 1 A\n", fileLines(a), "run A 20001", "run A", "run A x", "run A -1", "build A")
	wantSaid(t, "error range\nerror form\nerror none Q 0\n", "run Q 20001", "run Q 1 x", "run Q 1")
}

// A console may come to keep more entries than a build with entries takes.
func TestConsolesThatKeepManyEntries(t *testing.T) {
	var lines []string
	want := ""
	for at := range 26 {
		name := string(rune('A' + at))
		lines = append(lines, fileLines(telling(name)), "build "+name, "remove "+name)
		want += "ok\nbuilt 1 " + name + "\nok\n"
	}
	lines = append(lines, fileLines(telling("A")), fileLines(telling("Z")), fileLines(telling("M", "A", "Z")), "build M", "build M", "run M 99")
	wantSaid(t, want+"ok\nok\nok\nbuilt 3 M\nbuilt 3\n\"A\"\n\"Z\"\n\"M\"\nhalt\n", lines...)
}

func TestRunsOfConsoles(t *testing.T) {
	ahead := "MODULE M; VAR i: INTEGER; c: CHAR; b: BOOLEAN; v: ARRAY 3 OF INTEGER; PROCEDURE R(): INTEGER; END R; PROCEDURE P(); BEGIN P() END P; BEGIN "
	for _, c := range []struct{ statements, numbers, want string }{
		{"", "1", "halt\n"}, {"", "0", "fuel\n"}, {"", "20000", "halt\n"}, {"", "20000 1 2 3", "halt\n"},
		{"WRITE(-7); WRITE(b); WRITE(~b); WRITE(c); WRITE(\"é\"); WRITE(\".\")", "99", "-7\nFALSE\nTRUE\n00X\n\"é\"\n\".\"\nhalt\n"},
		{"READ(i); READ(c); WRITE(i); WRITE(c)", "99 -5 65", "-5\n\"A\"\nhalt\n"}, {"READ(i); READ(c); WRITE(i); WRITE(c)", "99 -5 -65", "trap input\n"},
		{"READ(i); WRITE(i); READ(i)", "99 999999999999999999", "999999999999999999\ntrap input\n"}, {"READ(i); WRITE(i - 1)", "99 -999999999999999999", "-1000000000000000000\nhalt\n"},
		{"READ(i); WRITE(1); WRITE(5 DIV i)", "99 0", "1\ntrap zero\n"}, {"READ(i); WRITE(v[i])", "99 3", "trap index\n"}, {"READ(i); WRITE(v[i])", "99 2", "0\nhalt\n"}, {"READ(i); WRITE(CHR(i))", "99 55296", "trap char\n"}, {"READ(i); WRITE(CHR(i))", "99 10", "0AX\nhalt\n"},
		{"READ(i); WRITE(R())", "99 1", "trap result\n"}, {"READ(c)", "99", "trap input\n"},
		{"WRITE(3); P()", "20000", "3\nroom\n"}, {"WHILE TRUE DO WRITE(4) END", "20000", strings.Repeat("4\n", 1000) + "room\n"}, {"WHILE TRUE DO END", "20000", "fuel\n"}, {"WRITE(1); WRITE(2)", "3", "1\nfuel\n"},
	} {
		text := ahead + c.statements + " END M."
		wantSaid(t, "ok\n"+c.want, fileLines(text), "run M "+c.numbers)
		wantSaid(t, "ok\n"+c.want+c.want+"built 3\n", fileLines(text), "run M "+c.numbers, "run M "+c.numbers, "build M")
	}
}

func TestNumbersOfRuns(t *testing.T) {
	m := fileLines("MODULE M; VAR i: INTEGER; BEGIN READ(i); WRITE(i) END M.")
	inputs := func(many int, text string) string { return strings.Repeat(" "+text, many) }
	run := func(want string, numbers string) {
		t.Helper()
		wantSaid(t, "ok\n"+want+"\n", m, "run M "+numbers)
	}
	for _, text := range []string{"0", "1", "-1", "9", "10", "-10", "123456789012345678", "-123456789012345678", "999999999999999999", "-999999999999999999", "100000000000000000"} {
		run(text+"\nhalt", "99 "+text)
		run(text+"\nhalt", "99 "+text+" 7")
		run("7\nhalt", "99 7 "+text)
	}
	for _, text := range []string{"00", "01", "-0", "-01", "-00", "+1", "+0", "-", "--1", "-+1", "1-", "1000000000000000000", "-1000000000000000000", "0000000000000000001", "9223372036854775807", strings.Repeat("9", 60), "x", "1x", "x1", "0x1", "0AX", "1.", "1.0", "1,", "1_0", "1e3", "٣", "１", "\x00", "1\t", "\"1\"", "TRUE", "1\xff"} {
		run("error form", text)
		run("error form", "99 "+text)
		run("error form", "99 7 "+text)
		run("error form", text+" 7")
		// That a text is none comes ahead of numbers out of their bounds.
		run("error form", "20001 "+text)
		run("error form", "-1 "+text)
		run("error form", "99"+inputs(100, "1")+" "+text)
		run("error form", "99"+inputs(101, "1")+" "+text)
	}
	run("fuel", "0")
	run("fuel", "0 7")
	run("7\nhalt", "20000 7")
	for _, fuel := range []string{"20001", "-1", "-20000", "65536", "4294967296", "999999999999999999", "-999999999999999999"} {
		run("error range", fuel)
		run("error range", fuel+" 7")
	}
	run("8\nhalt", "99"+inputs(100, "8"))
	run("error range", "99"+inputs(101, "8"))
	run("error range", "99"+inputs(102, "8"))
	run("error range", "99"+inputs(5000, "8"))
	run("error form", "")
	for _, line := range []string{"run", "run 1", "run 1 1", "run M", "run M M 1", "run END 1", "run M. 1", "run 1 M", "Run M 1"} {
		wantSaid(t, "ok\nerror form\n", m, line)
	}
}
