package tests

import (
	"math"
	"reflect"
	"slices"
	"strconv"
	"strings"
	"testing"

	"loop.example/g00168/impl"
)

// toldBy is what a result tells, with blanks between.
func toldBy(r impl.Result) string {
	text, _ := impl.OutText(r.Out)
	return strings.TrimSuffix(strings.ReplaceAll(text, "\n", " "), " ")
}

// wantDone evaluates sources, of which the last one is main.
func wantDone(t *testing.T, list []impl.Source, input []int, fuel int, end, trap int, told string) impl.Result {
	t.Helper()
	r := wantEvaluated(t, list, list[len(list)-1].Name, input, fuel)
	if got := toldBy(r); r.End != end || r.Trap != trap || got != told {
		text, _ := impl.Print(list[len(list)-1].Tree)
		t.Errorf("end %d, trap %d, %.900q, want %d, %d, %.900q:\n%.3000s", r.End, r.Trap, got, end, trap, told, text)
	}
	return r
}

const procsAhead = "MODULE M; VAR i, j: INTEGER; b: BOOLEAN; v: ARRAY 3 OF INTEGER; c: CHAR; " +
	"PROCEDURE Empty(); END Empty; PROCEDURE Two(a, b: INTEGER); END Two; PROCEDURE Id(n: INTEGER): INTEGER; BEGIN RETURN n END Id; " +
	"PROCEDURE Say(n: INTEGER): INTEGER; BEGIN WRITE(n); RETURN n END Say; PROCEDURE Up(VAR a: INTEGER): BOOLEAN; BEGIN a := a + 1; RETURN a < 4 END Up; " +
	"PROCEDURE Next(VAR a: INTEGER): INTEGER; BEGIN a := a + 1; RETURN a END Next; PROCEDURE Set(VAR a: INTEGER; n: INTEGER); BEGIN a := n END Set; " +
	"PROCEDURE Show(VAR a: INTEGER; n: INTEGER); BEGIN WRITE(a); WRITE(n) END Show; PROCEDURE Both(VAR a, b: INTEGER); BEGIN a := 5; WRITE(b); b := 6; WRITE(a) END Both; " +
	"PROCEDURE Early(n: INTEGER); BEGIN IF n = 0 THEN RETURN END; WRITE(n) END Early; " +
	"PROCEDURE None(n: INTEGER): INTEGER; BEGIN IF n > 0 THEN RETURN n END END None; BEGIN "

func stated(t *testing.T, statements string) []impl.Source {
	t.Helper()
	return sourcesOf(t, procsAhead+statements+" END M.")
}

// Each statement uses 1 of the fuel, each call 1 more, and each round 1 behind it.
func TestFuelOfEachStatement(t *testing.T) {
	for _, c := range []struct {
		statements string
		used       int
	}{
		{"", 0}, {"i := 1", 1}, {"WRITE(i)", 1}, {"READ(i)", 1}, {"READ(v[i + 1])", 1}, {"RETURN", 1}, {"i := 1; RETURN; i := 2", 2}, {"i := (1 + 2) * 3 - LEN(v) + ORD(CHR(v[0]))", 1},
		{"IF b THEN i := 1 END", 1}, {"IF ~b THEN i := 1 END", 2}, {"IF b THEN i := 1; i := 2 ELSE i := 3 END", 2}, {"IF ~b THEN i := 1; i := 2 ELSE i := 3 END", 3}, {"IF b THEN ELSE END; IF ~b THEN ELSE END", 2},
		{"IF b THEN ELSIF b THEN ELSIF ~b THEN i := 1 END", 4}, {"IF b THEN ELSIF ~b THEN ELSE i := 1 END", 2}, {"IF b THEN ELSIF b THEN ELSE i := 1 END", 3}, {"IF ~b THEN RETURN END; i := 1", 2},
		{"WHILE b DO i := 1 END", 1}, {"WHILE i < 1 DO i := 1 END", 3}, {"WHILE i < 3 DO i := i + 1 END", 7}, {"WHILE i < 3 DO i := i + 1; j := j + i END", 10},
		{"WHILE ~b DO b := TRUE; WHILE i < 2 DO i := i + 1 END END", 8}, {"WHILE TRUE DO RETURN END", 2}, {"WHILE TRUE DO i := 1; RETURN; i := 2 END", 3}, {"WHILE TRUE DO IF i = 2 THEN RETURN END; i := i + 1 END", 9},
		{"Empty()", 2}, {"Empty(); Empty()", 4}, {"i := Id(1)", 3}, {"i := Id(Id(Id(1)))", 7}, {"Two(Id(1), Id(2))", 6}, {"WRITE(Id(1) + Id(2) * Id(3))", 7}, {"v[Id(1)] := Id(2)", 5}, {"i := Say(1)", 4},
		{"IF Up(i) THEN i := Id(1) END", 7}, {"WHILE Up(i) DO END", 16}, {"b := b & Up(i)", 1}, {"b := ~b OR Up(i)", 1}, {"b := b OR Up(i)", 4}, {"b := ~b & Up(i)", 4}, {"Early(0)", 4}, {"Early(1)", 4}, {"Set(v[Id(2)], 1)", 5},
		{"WHILE i < 9 DO i := i + 1; Empty() END", 37},
	} {
		list := stated(t, c.statements)
		r := wantEvaluated(t, list, "M", []int{1}, impl.MaxFuel)
		if r.End != impl.EnHalt || r.Used != c.used {
			t.Errorf("%s: %v, want %d used", c.statements, r, c.used)
		}
		for fuel := range c.used + 3 {
			less := wantEvaluated(t, list, "M", []int{1}, fuel)
			if (less.End == impl.EnFuel) != (fuel < c.used) || less.Used != min(fuel, c.used) {
				t.Errorf("%s: with %d %v", c.statements, fuel, less)
			}
		}
	}
}

func TestWhereFuelIsUsed(t *testing.T) {
	for _, c := range []struct {
		statements      string
		fuel            int
		end, trap, used int
		told            string
	}{
		// A call's own is used behind its arguments.
		{"Two(Say(1), Say(2))", 2, impl.EnFuel, 0, 2, ""}, {"Two(Say(1), Say(2))", 3, impl.EnFuel, 0, 3, "1"}, {"Two(Say(1), Say(2))", 5, impl.EnFuel, 0, 5, "1"}, {"Two(Say(1), Say(2))", 6, impl.EnFuel, 0, 6, "1 2"}, {"Two(Say(1), Say(2))", 7, impl.EnFuel, 0, 7, "1 2"}, {"Two(Say(1), Say(2))", 8, impl.EnHalt, 0, 8, "1 2"},
		{"Two(1 DIV i, 2)", 0, impl.EnFuel, 0, 0, ""}, {"Two(1 DIV i, 2)", 1, impl.EnTrap, impl.TrZero, 1, ""}, {"Two(1, v[3])", 1, impl.EnTrap, impl.TrIndex, 1, ""}, {"Set(v[3], 1)", 1, impl.EnTrap, impl.TrIndex, 1, ""}, {"i := Id(1 DIV i)", 1, impl.EnTrap, impl.TrZero, 1, ""},
		{"Two(Id(1), v[3])", 3, impl.EnTrap, impl.TrIndex, 3, ""}, {"Two(Id(1), v[3])", 2, impl.EnFuel, 0, 2, ""},
		// A statement's own is used ahead of all that it does, what a round uses behind it.
		{"WRITE(1 DIV i)", 0, impl.EnFuel, 0, 0, ""}, {"WRITE(1 DIV i)", 1, impl.EnTrap, impl.TrZero, 1, ""}, {"WHILE 1 DIV i = 0 DO END", 1, impl.EnTrap, impl.TrZero, 1, ""}, {"WHILE 1 DIV i = 0 DO END", 0, impl.EnFuel, 0, 0, ""},
		{"WHILE 1 DIV (1 - i) = 1 DO i := i + 1 END", 2, impl.EnFuel, 0, 2, ""}, {"WHILE 1 DIV (1 - i) = 1 DO i := i + 1 END", 3, impl.EnTrap, impl.TrZero, 3, ""},
		{"WHILE TRUE DO WRITE(i); i := i + 1 END", 1, impl.EnFuel, 0, 1, ""}, {"WHILE TRUE DO WRITE(i); i := i + 1 END", 2, impl.EnFuel, 0, 2, "0"}, {"WHILE TRUE DO WRITE(i); i := i + 1 END", 4, impl.EnFuel, 0, 4, "0"}, {"WHILE TRUE DO WRITE(i); i := i + 1 END", 5, impl.EnFuel, 0, 5, "0 1"},
		{"READ(i)", 0, impl.EnFuel, 0, 0, ""}, {"READ(i)", 1, impl.EnTrap, impl.TrInput, 1, ""}, {"WRITE(None(0))", 3, impl.EnTrap, impl.TrResult, 3, ""}, {"WRITE(None(0))", 2, impl.EnFuel, 0, 2, ""}, {"WRITE(None(4))", 4, impl.EnHalt, 0, 4, "4"}, {"WRITE(None(4))", 3, impl.EnFuel, 0, 3, ""},
		{"WRITE(1); WRITE(2); WRITE(3)", 2, impl.EnFuel, 0, 2, "1 2"}, {"RETURN; WRITE(1)", 1, impl.EnHalt, 0, 1, ""}, {"IF Say(3) = 3 THEN WRITE(4) END", 3, impl.EnFuel, 0, 3, "3"}, {"IF Say(3) = 3 THEN WRITE(4) END", 4, impl.EnFuel, 0, 4, "3"},
	} {
		if r := wantDone(t, stated(t, c.statements), nil, c.fuel, c.end, c.trap, c.told); r.Used != c.used {
			t.Errorf("%s: used %d, want %d", c.statements, r.Used, c.used)
		}
	}
}

func TestBoundsOfFuelAndInputs(t *testing.T) {
	right := stated(t, "WHILE TRUE DO END")
	wrong := sourcesOf(t, "MODULE M; BEGIN i := 1 END M.")
	for _, c := range []struct{ inputs, fuel, code int }{
		{0, 0, impl.OK}, {0, 1, impl.OK}, {0, 19999, impl.OK}, {0, 20000, impl.OK}, {0, 20001, impl.ErrRange}, {0, -1, impl.ErrRange}, {0, math.MinInt, impl.ErrRange}, {0, math.MaxInt, impl.ErrRange},
		{1, 5, impl.OK}, {99, 5, impl.OK}, {100, 5, impl.OK}, {101, 5, impl.ErrRange}, {4096, 5, impl.ErrRange}, {4097, 5, impl.ErrLong}, {4097, -1, impl.ErrLong}, {101, -1, impl.ErrRange}, {100, 20001, impl.ErrRange},
	} {
		r, code := impl.Evaluate(right, "M", make([]int, c.inputs), c.fuel)
		if want := (impl.Result{End: impl.EnFuel, Used: c.fuel}); code != c.code || code == impl.OK && !reflect.DeepEqual(r, want) || code != impl.OK && !reflect.DeepEqual(r, impl.Result{}) {
			t.Errorf("%v: code %d, %v", c, code, r)
		}
		for _, bad := range [][]impl.Source{nil, wrong, slices.Repeat(right, 2), make([]impl.Source, 21)} {
			want := impl.ErrBad
			if c.code == impl.ErrLong {
				want = impl.ErrLong
			}
			if r, code := impl.Evaluate(bad, "M", make([]int, c.inputs), c.fuel); code != want || !reflect.DeepEqual(r, impl.Result{}) {
				t.Errorf("%v, %d sources that are not right: code %d, %v", c, len(bad), code, r)
			}
		}
		if r, code := impl.Evaluate(right, "N", make([]int, c.inputs), c.fuel); c.code == impl.ErrLong && code != impl.ErrLong || c.code != impl.ErrLong && code != impl.ErrBad || !reflect.DeepEqual(r, impl.Result{}) {
			t.Errorf("%v, a main one that is missing: code %d, %v", c, code, r)
		}
	}
	exact := stated(t, "WHILE i < 9999 DO i := i + 1 END; WRITE(i)")
	if r := wantDone(t, exact, nil, 20000, impl.EnHalt, 0, "9999"); r.Used != 20000 {
		t.Error("20000 used:", r)
	}
	if r := wantDone(t, exact, nil, 19999, impl.EnFuel, 0, ""); r.Used != 19999 {
		t.Error("19999 used:", r)
	}
	wantDone(t, stated(t, "WHILE i < 9999 DO i := i + 1 END; i := 0; WRITE(i)"), nil, 20000, impl.EnFuel, 0, "")
}

func TestInputsOfSources(t *testing.T) {
	echo := stated(t, "WHILE TRUE DO READ(i); WRITE(i) END")
	input := make([]int, 100)
	for at := range input {
		input[at] = at*at*at - 500
	}
	for _, many := range []int{0, 1, 2, 99, 100} {
		r := wantEvaluated(t, echo, "M", input[:many], impl.MaxFuel)
		if r.End != impl.EnTrap || r.Trap != impl.TrInput || len(r.Out) != many || many > 0 && r.Out[many-1] != (impl.Out{Type: impl.TyInt, Value: input[many-1]}) {
			t.Errorf("%d inputs: %v", many, r)
		}
	}
	for _, n := range []int{math.MinInt, -1, 0, 1, 31, 34, 127, 0xD7FF, 0xD800, 0xDBFF, 0xDFFF, 0xE000, 0x10FFFF, 0x110000, 1<<32 + 65, math.MaxInt} {
		r := wantEvaluated(t, stated(t, "READ(i); WRITE(i); READ(c); WRITE(c)"), "M", []int{n, n}, 99)
		if len(r.Out) == 0 || r.Out[0] != (impl.Out{Type: impl.TyInt, Value: n}) {
			t.Errorf("READ of an INTEGER, %d: %v", n, r)
		}
		if fits := isCharacter(n); fits != (r.End == impl.EnHalt) || fits && r.Out[1] != (impl.Out{Type: impl.TyChar, Value: n}) || !fits && (r.Trap != impl.TrInput || len(r.Out) != 1) {
			t.Errorf("READ of a CHAR, %d: %v", n, r)
		}
	}
	// An index traps ahead of an input that is used up, or is no character.
	wantDone(t, stated(t, "READ(v[3])"), nil, 9, impl.EnTrap, impl.TrIndex, "")
	wantDone(t, stated(t, "READ(v[3])"), []int{1}, 9, impl.EnTrap, impl.TrIndex, "")
	wantDone(t, stated(t, "READ(v[1 DIV i])"), nil, 9, impl.EnTrap, impl.TrZero, "")
	wantDone(t, stated(t, "READ(v[Say(2)])"), nil, 9, impl.EnTrap, impl.TrInput, "2")
	wantDone(t, stated(t, "READ(c); READ(i)"), []int{-1, 5}, 9, impl.EnTrap, impl.TrInput, "")
	wantDone(t, stated(t, "READ(v[2]); READ(c); READ(i); WRITE(v[2]); WRITE(c); WRITE(i)"), []int{7, 8, 9, 10}, 9, impl.EnHalt, 0, "7 08X 9")
	// Each module goes on reading where the one ahead stopped.
	wantDone(t, sourcesOf(t, "MODULE A; VAR x*: INTEGER; BEGIN READ(x) END A.", "MODULE B; IMPORT A; VAR y*: INTEGER; BEGIN READ(y); READ(y) END B.", "MODULE M; IMPORT B, A; VAR z: INTEGER; BEGIN READ(z); WRITE(A.x); WRITE(B.y); WRITE(z) END M."), []int{1, 2, 3, 4, 5}, 99, impl.EnHalt, 0, "1 3 4")
}

func TestWhatComesFirst(t *testing.T) {
	for _, c := range []struct {
		statements string
		trap       int
		told       string
	}{
		// The left side is worked out, whole, ahead of the right one.
		{"WRITE(Say(7) - Say(2) - Say(1))", 0, "7 2 1 4"}, {"WRITE(i + Next(i) + i)", 0, "2"}, {"WRITE(Next(i) * 10 + i)", 0, "11"}, {"WRITE(i * 100 + Next(i) * 10 + Next(i))", 0, "12"}, {"WRITE(v[i] + Next(i) + v[i])", 0, "1"},
		{"WRITE(i = Next(i)); WRITE(Next(i) = i); WRITE(i < Next(i))", 0, "FALSE TRUE TRUE"}, {"v[0] := 7; WRITE(v[i] + Next(i))", 0, "8"}, {"WRITE(1 DIV i + v[3])", impl.TrZero, ""}, {"WRITE(v[3] + 1 DIV i)", impl.TrIndex, ""}, {"WRITE(Say(1) DIV (Say(2) - 2))", impl.TrZero, "1 2"},
		{"WRITE((1 DIV i = 1) & (v[3] = 1))", impl.TrZero, ""}, {"WRITE((v[3] = 1) OR (1 DIV i = 1))", impl.TrIndex, ""}, {"WRITE(v[1 DIV i + v[3]])", impl.TrZero, ""}, {"WRITE(CHR(-1) = CHR(1 DIV i))", impl.TrChar, ""}, {"WRITE(CHR(1 DIV i) = CHR(-1))", impl.TrZero, ""}, {"WRITE(CHR(Say(65)))", 0, "65 \"A\""},
		// The address, with its index, comes ahead of the value.
		{"v[i] := Next(i); WRITE(v[0]); WRITE(v[1])", 0, "1 0"}, {"v[Next(i)] := Next(i); WRITE(v[1]); WRITE(v[2])", 0, "2 0"}, {"v[Say(1)] := Say(2)", 0, "1 2"}, {"i := Next(i) + 10; WRITE(i)", 0, "11"}, {"v[i] := i + Next(i) + i; WRITE(v[0])", 0, "2"},
		{"v[3] := 1 DIV i", impl.TrIndex, ""}, {"v[-1] := ORD(CHR(-1))", impl.TrIndex, ""}, {"v[1 DIV i] := v[3]", impl.TrZero, ""}, {"v[Say(3)] := Say(1)", impl.TrIndex, "3"}, {"v[0] := Say(1) DIV i", impl.TrZero, "1"}, {"v[None(0)] := v[3]", impl.TrResult, ""},
		// Arguments go in their order: an address stands as it was chosen, a value as it was.
		{"Set(v[i], Next(i)); WRITE(v[0]); WRITE(v[1])", 0, "1 0"}, {"Set(v[Next(i)], Next(i)); WRITE(v[1]); WRITE(v[2])", 0, "2 0"}, {"Show(i, Next(i))", 0, "1 1"}, {"Show(v[i], Next(v[i])); WRITE(v[0])", 0, "1 1 1"}, {"Show(v[i], Next(i)); WRITE(i)", 0, "0 1 1"},
		{"WRITE(Id(i) + Next(i) + Id(i))", 0, "2"}, {"Two(Say(1), Say(2))", 0, "1 2"}, {"Two(v[3], 1 DIV i)", impl.TrIndex, ""}, {"Two(1 DIV i, v[3])", impl.TrZero, ""}, {"Set(v[3], 1 DIV i)", impl.TrIndex, ""}, {"Set(v[0], 1 DIV i)", impl.TrZero, ""}, {"Two(Say(1), Say(2) DIV i)", impl.TrZero, "1 2"},
		{"i := 2; Set(i, i + i); WRITE(i); Set(i, Next(i) + i); WRITE(i)", 0, "4 10"},
		// What would trap is not worked out where the left side tells all.
		{"WRITE(b & (1 DIV i = 1)); WRITE(~b OR (v[3] = 1)); WRITE(b & (ORD(CHR(-1)) = 0)); WRITE(~b OR (None(0) = 1)); WRITE(b & Up(i)); WRITE(i)", 0, "FALSE TRUE FALSE TRUE FALSE 0"},
		{"WRITE(~b & (1 DIV i = 1))", impl.TrZero, ""}, {"WRITE(b OR (v[3] = 1))", impl.TrIndex, ""}, {"WRITE(b OR (None(0) = 1))", impl.TrResult, ""}, {"WRITE(b OR Up(i)); WRITE(i); WRITE(~b & Up(i)); WRITE(i)", 0, "TRUE 1 TRUE 2"},
		{"WRITE((i # 0) & (1 DIV i = 1) OR (i = 0)); WRITE(b & b & (1 DIV i = 1)); WRITE(~b OR b OR (1 DIV i = 1)); WRITE((~b OR (1 DIV i = 1)) & b)", 0, "TRUE FALSE TRUE FALSE"},
		{"WRITE(b & (1 DIV i = 1) OR (2 DIV i = 1))", impl.TrZero, ""},
	} {
		end := impl.EnHalt
		if c.trap != 0 {
			end = impl.EnTrap
		}
		wantDone(t, stated(t, c.statements), nil, impl.MaxFuel, end, c.trap, c.told)
	}
}

func TestIndexesOfSources(t *testing.T) {
	for _, length := range []int{1, 2, 3, 99, 100} {
		ahead := "MODULE M; VAR i: INTEGER; v: ARRAY " + strconv.Itoa(length) + " OF INTEGER; before, behind: INTEGER; PROCEDURE Set(VAR a: INTEGER); BEGIN a := 4 END Set; " +
			"PROCEDURE Own(n: INTEGER): INTEGER; VAR w: ARRAY " + strconv.Itoa(length) + " OF INTEGER; x: INTEGER; BEGIN w[n] := 6; RETURN w[n] + x END Own; BEGIN READ(i); "
		for _, index := range []int{math.MinInt, -length, -1, 0, 1, length - 1, length, length + 1, 100, 101, math.MaxInt} {
			end, trap := impl.EnHalt, 0
			told := func(text string) string { return text }
			if index < 0 || index >= length {
				end, trap, told = impl.EnTrap, impl.TrIndex, func(string) string { return "" }
			}
			for statements, text := range map[string]string{"v[i] := 3; WRITE(v[i])": "3", "WRITE(v[i])": "0", "READ(v[i]); WRITE(v[i])": "9", "Set(v[i]); WRITE(v[i]); WRITE(before + behind)": "4 0", "WRITE(Own(i))": "6"} {
				wantDone(t, sourcesOf(t, ahead+statements+" END M."), []int{index, 9}, 99, end, trap, told(text))
			}
		}
	}
}

func TestDivisionsOfSources(t *testing.T) {
	list := stated(t, "READ(i); READ(j); WRITE(i MOD j); WRITE(i DIV j)")
	for _, c := range []struct{ left, right, div, mod int }{
		{7, 2, 3, 1}, {-7, 2, -4, 1}, {7, -2, -4, -1}, {-7, -2, 3, -1}, {8, 2, 4, 0}, {-8, 2, -4, 0}, {8, -2, -4, 0}, {0, 5, 0, 0}, {0, -5, 0, 0}, {1, 3, 0, 1}, {-1, 3, -1, 2}, {1, -3, -1, -2}, {-1, -3, 0, -1},
		{math.MinInt, -1, math.MinInt, 0}, {math.MinInt, 1, math.MinInt, 0}, {math.MinInt, math.MaxInt, -2, math.MaxInt - 1}, {math.MaxInt, math.MinInt, -1, -1}, {math.MaxInt, -1, -math.MaxInt, 0}, {math.MinInt, 2, math.MinInt / 2, 0}, {math.MinInt, math.MinInt, 1, 0}, {math.MinInt, 3, -3074457345618258603, 1},
	} {
		wantDone(t, list, []int{c.left, c.right}, 99, impl.EnHalt, 0, strconv.Itoa(c.mod)+" "+strconv.Itoa(c.div))
	}
	for _, left := range []int{math.MinInt, -1, 0, 1, math.MaxInt} {
		wantDone(t, list, []int{left, 0}, 99, impl.EnTrap, impl.TrZero, "")
		wantDone(t, stated(t, "READ(i); WRITE(i DIV (j - j))"), []int{left}, 99, impl.EnTrap, impl.TrZero, "")
	}
}

func TestNumbersOfSourcesWrap(t *testing.T) {
	list := stated(t, "READ(i); READ(j); WRITE(i + j); WRITE(i - j); WRITE(i * j); WRITE(-i); WRITE(i < j); WRITE(i = j); WRITE(i >= j); WRITE(i # j); WRITE(i > j); WRITE(i <= j)")
	numbers := []int{math.MinInt, math.MinInt + 1, -1 << 32, -2, -1, 0, 1, 2, 1 << 31, 3037000500, math.MaxInt - 1, math.MaxInt}
	for _, left := range numbers {
		for _, right := range numbers {
			r := wantEvaluated(t, list, "M", []int{left, right}, 99)
			if r.End != impl.EnHalt || len(r.Out) != 10 || r.Out[0].Value != left+right || r.Out[1].Value != left-right || r.Out[2].Value != left*right || r.Out[3].Value != -left || (r.Out[4].Value == 1) != (left < right) {
				t.Errorf("%d, %d: %v", left, right, r)
			}
		}
	}
	wantDone(t, list, []int{math.MaxInt, 1}, 99, impl.EnHalt, 0, "-9223372036854775808 9223372036854775806 9223372036854775807 -9223372036854775807 FALSE FALSE TRUE TRUE TRUE FALSE")
	wantDone(t, list, []int{math.MinInt, 1}, 99, impl.EnHalt, 0, "-9223372036854775807 9223372036854775807 -9223372036854775808 -9223372036854775808 TRUE FALSE FALSE TRUE FALSE TRUE")
}

func TestCharactersOfSources(t *testing.T) {
	list := stated(t, "READ(i); c := CHR(i); WRITE(c); WRITE(ORD(c) = i); WRITE(ORD(CHR(i)))")
	for _, n := range []int{math.MinInt, -1, 0, 10, 31, 32, 34, 65, 127, 233, 0xD7FF, 0xD800, 0xDBFF, 0xDFFF, 0xE000, 0x10FFFF, 0x110000, 1 << 32, 1<<32 + 65, math.MaxInt} {
		if !isCharacter(n) {
			wantDone(t, list, []int{n}, 99, impl.EnTrap, impl.TrChar, "")
			continue
		}
		text, _ := impl.CharText(n)
		wantDone(t, list, []int{n}, 99, impl.EnHalt, 0, text+" TRUE "+strconv.Itoa(n))
	}
}

func TestWhatSourcesTell(t *testing.T) {
	for _, c := range []struct {
		value, told string
		ty          int
	}{
		{"7", "7", impl.TyInt}, {"-7", "-7", impl.TyInt}, {"i", "0", impl.TyInt}, {"v[1]", "0", impl.TyInt}, {"LEN(v)", "3", impl.TyInt}, {"ORD(c)", "0", impl.TyInt}, {"1 + 2", "3", impl.TyInt}, {"1 - 2", "-1", impl.TyInt}, {"2 * 3", "6", impl.TyInt}, {"7 DIV 2", "3", impl.TyInt}, {"7 MOD 2", "1", impl.TyInt}, {"Id(4)", "4", impl.TyInt},
		{"TRUE", "TRUE", impl.TyBool}, {"FALSE", "FALSE", impl.TyBool}, {"b", "FALSE", impl.TyBool}, {"~b", "TRUE", impl.TyBool}, {"b & b", "FALSE", impl.TyBool}, {"~b & ~b", "TRUE", impl.TyBool}, {"b OR b", "FALSE", impl.TyBool}, {"~b OR b", "TRUE", impl.TyBool}, {"1 = 1", "TRUE", impl.TyBool}, {"1 # 1", "FALSE", impl.TyBool},
		{"1 < 2", "TRUE", impl.TyBool}, {"2 <= 1", "FALSE", impl.TyBool}, {"1 > 2", "FALSE", impl.TyBool}, {"2 >= 1", "TRUE", impl.TyBool}, {"b = b", "TRUE", impl.TyBool}, {"c # c", "FALSE", impl.TyBool}, {"c < \"a\"", "TRUE", impl.TyBool}, {"Up(i)", "TRUE", impl.TyBool},
		{"\"a\"", "\"a\"", impl.TyChar}, {"0AX", "0AX", impl.TyChar}, {"c", "00X", impl.TyChar}, {"CHR(98)", "\"b\"", impl.TyChar},
	} {
		r := wantDone(t, stated(t, "WRITE("+c.value+")"), nil, 99, impl.EnHalt, 0, c.told)
		if len(r.Out) != 1 || r.Out[0].Type != c.ty {
			t.Errorf("WRITE(%s): %v", c.value, r)
		}
	}
	a := "MODULE A; CONST k* = 5; t* = TRUE; c* = \"c\"; n = -k; VAR x*: INTEGER; b*: BOOLEAN; h*: CHAR; v*: ARRAY 2 OF CHAR; w*: ARRAY 3 OF BOOLEAN; PROCEDURE F*(): CHAR; BEGIN RETURN c END F; BEGIN x := n; v[1] := F() END A."
	wantDone(t, sourcesOf(t, a, "MODULE M; IMPORT A; CONST k = A.k + 1; t = ~A.t; c = A.c; BEGIN WRITE(k); WRITE(t); WRITE(c); WRITE(A.k); WRITE(A.t); WRITE(A.c); WRITE(A.x); WRITE(A.b); WRITE(A.h); WRITE(A.v[1]); WRITE(A.w[2]); WRITE(A.F()); WRITE(LEN(A.v)); WRITE(LEN(A.w)) END M."), nil, 99, impl.EnHalt, 0,
		"6 FALSE \"c\" 5 TRUE \"c\" -5 FALSE 00X \"c\" FALSE \"c\" 2 3")
	for _, many := range []int{0, 1, 999, 1000, 1001, 1500} {
		r := wantEvaluated(t, stated(t, "WHILE i < "+strconv.Itoa(many)+" DO WRITE(i); i := i + 1 END"), "M", nil, impl.MaxFuel)
		end, used := impl.EnHalt, 1+3*many
		if many > 1000 { // the one too many uses fuel
			end, used = impl.EnRoom, 1+3*1000+1
		}
		if r.End != end || r.Trap != 0 || r.Used != used || len(r.Out) != min(many, 1000) || many > 0 && r.Out[len(r.Out)-1].Value != len(r.Out)-1 {
			t.Errorf("%d told: end %d, used %d, %d", many, r.End, r.Used, len(r.Out))
		}
	}
	// A trap in the value comes ahead of room for it.
	full := "WHILE i < 1000 DO WRITE(i); i := i + 1 END; "
	for statement, end := range map[string]int{"WRITE(1)": impl.EnRoom, "WRITE(1 DIV j)": impl.EnTrap, "WRITE(Say(1) DIV j)": impl.EnRoom, "j := 1": impl.EnHalt} {
		if r := wantEvaluated(t, stated(t, full+statement), "M", nil, impl.MaxFuel); r.End != end || len(r.Out) != 1000 {
			t.Errorf("%s: end %d, %d told", statement, r.End, len(r.Out))
		}
	}
}

func TestResultsOfSources(t *testing.T) {
	for _, c := range []struct {
		procs, statements string
		trap              int
		told              string
	}{
		{"PROCEDURE F(): INTEGER; END F;", "WRITE(1); WRITE(F()); WRITE(2)", impl.TrResult, "1"},
		{"PROCEDURE F(): BOOLEAN; BEGIN WRITE(2) END F;", "IF F() THEN WRITE(3) END", impl.TrResult, "2"},
		{"PROCEDURE F(n: INTEGER): CHAR; BEGIN IF n = 1 THEN RETURN \"a\" ELSIF n = 2 THEN RETURN \"b\" END END F;", "WRITE(F(1)); WRITE(F(2)); WRITE(F(3))", impl.TrResult, "\"a\" \"b\""},
		{"PROCEDURE F(n: INTEGER): INTEGER; BEGIN WHILE n > 0 DO n := n - 1; IF n = 2 THEN RETURN 9 END END END F;", "WRITE(F(3)); WRITE(F(30)); WRITE(F(2))", impl.TrResult, "9 9"},
		{"PROCEDURE F(n: INTEGER): INTEGER; BEGIN IF n > 0 THEN WHILE TRUE DO n := n + 1; IF n > 5 THEN WHILE TRUE DO RETURN n END END END; RETURN 100 END; RETURN -1 END F;", "WRITE(F(1)); WRITE(F(9)); WRITE(F(0))", 0, "6 10 -1"},
		{"PROCEDURE P(n: INTEGER); BEGIN WHILE n > 0 DO IF n = 2 THEN RETURN END; WRITE(n); n := n - 1 END; WRITE(100) END P;", "P(4); P(1); P(0)", 0, "4 3 1 100 100"},
		{"PROCEDURE F(): INTEGER; BEGIN RETURN 1; WRITE(5); RETURN 2 END F; PROCEDURE G(): INTEGER; BEGIN RETURN F() + 1 END G;", "WRITE(F() + G())", 0, "3"},
		// What one returned is no result of the next one.
		{"PROCEDURE F(n: INTEGER): INTEGER; BEGIN IF n > 0 THEN RETURN n END END F; PROCEDURE G(): INTEGER; VAR x: INTEGER; BEGIN x := F(4) END G;", "WRITE(G())", impl.TrResult, ""},
		{"PROCEDURE F(): INTEGER; BEGIN RETURN 1 DIV 0 END F;", "WRITE(F())", impl.TrZero, ""},
		{"PROCEDURE F(): INTEGER; END F; PROCEDURE P(a, b: INTEGER); END P;", "P(F(), 1 DIV 0)", impl.TrResult, ""},
	} {
		end := impl.EnHalt
		if c.trap != 0 {
			end = impl.EnTrap
		}
		wantDone(t, sourcesOf(t, "MODULE M; "+c.procs+" BEGIN "+c.statements+" END M."), nil, impl.MaxFuel, end, c.trap, c.told)
	}
	wantDone(t, sourcesOf(t, "MODULE A; BEGIN WRITE(1); WHILE TRUE DO IF TRUE THEN RETURN END END; WRITE(2) END A.", "MODULE M; IMPORT A; BEGIN WRITE(3); RETURN; WRITE(4) END M."), nil, 99, impl.EnHalt, 0, "1 3")
}

func TestVariableParametersOfSources(t *testing.T) {
	procs := "MODULE M; VAR g: INTEGER; u: ARRAY 4 OF INTEGER; h: CHAR; f: BOOLEAN; " +
		"PROCEDURE Add(VAR a: INTEGER; d: INTEGER); BEGIN a := a + d END Add; " +
		"PROCEDURE Swap(VAR a, b: INTEGER); VAR o: INTEGER; BEGIN o := a; a := b; b := o END Swap; " +
		"PROCEDURE On(VAR a: INTEGER; n: INTEGER); BEGIN IF n = 0 THEN a := a * 10 ELSE On(a, n - 1); a := a + n END END On; " +
		"PROCEDURE Plain(a: INTEGER); BEGIN a := a + 100; Add(a, 1000); WRITE(a) END Plain; " +
		"PROCEDURE Outer(VAR a: INTEGER); BEGIN g := g + 1; a := a + 10; WRITE(g); WRITE(a) END Outer; " +
		"PROCEDURE Own(n: INTEGER): INTEGER; VAR x: INTEGER; w: ARRAY 3 OF INTEGER; y: INTEGER; BEGIN Add(x, n); Add(w[n], 7); Swap(w[n], y); Swap(x, w[0]); Add(n, 5); RETURN w[0] * 100 + y * 10 + n END Own; " +
		"PROCEDURE Deep(n: INTEGER; VAR up: INTEGER); VAR own: INTEGER; BEGIN IF n > 0 THEN Deep(n - 1, own) END; up := up + own + 1 END Deep; " +
		"PROCEDURE Three(VAR a, b, c: INTEGER); BEGIN a := 1; b := a + b; c := b + c; a := c END Three; " +
		"PROCEDURE Flags(VAR a: BOOLEAN; VAR c: CHAR); BEGIN a := ~a; READ(c) END Flags; " +
		"PROCEDURE Later(VAR a: INTEGER; VAR n: INTEGER); BEGIN n := n + 1; a := 9 END Later; BEGIN "
	for _, c := range []struct{ statements, told string }{
		{"Add(g, 4); Add(g, g); WRITE(g)", "8"}, {"Add(u[2], 4); Add(u[2], u[2]); WRITE(u[2]); WRITE(u[1] + u[3])", "8 0"},
		{"g := 2; u[1] := 5; Swap(g, u[1]); WRITE(g); WRITE(u[1]); Swap(u[1], u[3]); WRITE(u[1]); WRITE(u[3]); Swap(g, g); WRITE(g)", "5 2 0 2 5"},
		{"g := 1; On(g, 3); WRITE(g); On(u[3], 2); WRITE(u[3])", "16 3"}, {"g := 3; Plain(g); WRITE(g); Plain(u[0]); WRITE(u[0])", "1103 3 1100 0"},
		// One variable under two names.
		{"Outer(g); WRITE(g)", "11 11 11"}, {"Outer(u[1]); WRITE(g); WRITE(u[1])", "1 10 1 10"}, {"Three(g, g, g); WRITE(g)", "4"}, {"Three(u[0], u[1], u[0]); WRITE(u[0]); WRITE(u[1])", "2 1"}, {"u[2] := 3; Three(g, u[2], g); WRITE(g); WRITE(u[2])", "5 4"},
		// Locals, parameters, and elements of arrays of a procedure.
		{"WRITE(Own(1)); WRITE(Own(2)); WRITE(Own(1))", "176 277 176"}, {"Deep(0, g); WRITE(g); Deep(5, g); WRITE(g); Deep(3, u[3]); WRITE(u[3])", "1 7 4"},
		{"Flags(f, h); WRITE(f); WRITE(h); Flags(f, h); WRITE(f); WRITE(h)", "TRUE \"A\" FALSE \"B\""},
		// An element stays chosen, whatever its index becomes.
		{"Later(u[g], g); WRITE(g); WRITE(u[0]); WRITE(u[1]); Later(u[g + 1], u[g]); WRITE(u[1]); WRITE(u[2])", "1 9 0 1 9"}, {"g := 1; Swap(g, u[g]); WRITE(g); WRITE(u[0]); WRITE(u[1])", "0 0 1"}, {"Later(g, g); WRITE(g)", "9"},
	} {
		wantDone(t, sourcesOf(t, procs+c.statements+" END M."), []int{65, 66}, impl.MaxFuel, impl.EnHalt, 0, c.told)
	}
	wantDone(t, sourcesOf(t, procs+"WRITE(1); Add(u[4], 1); WRITE(2) END M."), nil, 99, impl.EnTrap, impl.TrIndex, "1")
	wantDone(t, sourcesOf(t, procs+"WRITE(Own(3)) END M."), nil, 99, impl.EnTrap, impl.TrIndex, "")
	// Of another module, and handed on through it.
	a := "MODULE A; VAR x*: INTEGER; PROCEDURE Add*(VAR a: INTEGER; d: INTEGER); BEGIN a := a + d; x := x + 1 END Add; PROCEDURE Twice*(VAR a: INTEGER); BEGIN Add(a, 1); Add(a, a); Add(x, 10) END Twice; END A."
	wantDone(t, sourcesOf(t, a, "MODULE M; IMPORT A; VAR x: INTEGER; v: ARRAY 2 OF INTEGER; PROCEDURE P(VAR x: INTEGER); BEGIN A.Twice(x); WRITE(x + A.x) END P; BEGIN P(x); P(v[1]); P(v[x - 2]); WRITE(x); WRITE(v[0]); WRITE(v[1]); WRITE(A.x) END M."), nil, 99, impl.EnHalt, 0, "15 28 41 2 2 2 39")
}

func TestCellsOfProceduresAreTheirOwn(t *testing.T) {
	procs := "MODULE M; VAR x: INTEGER; PROCEDURE F(): INTEGER; VAR x: INTEGER; v: ARRAY 3 OF INTEGER; BEGIN x := x + 1; v[2] := v[2] + x; RETURN v[0] * 100 + v[2] * 10 + x END F; " +
		"PROCEDURE Down(n: INTEGER): INTEGER; VAR x, y: INTEGER; BEGIN x := n; IF n > 0 THEN y := Down(n - 1) END; RETURN y * 10 + x END Down; " +
		"PROCEDURE Hide(F: INTEGER; x: CHAR): CHAR; VAR M: INTEGER; BEGIN M := F; RETURN CHR(ORD(x) + M) END Hide; BEGIN x := 7; "
	wantDone(t, sourcesOf(t, procs+"WRITE(F()); WRITE(F()); WRITE(x); WRITE(Down(5)); WRITE(x); WRITE(Hide(2, \"a\")); WRITE(x) END M."), nil, 999, impl.EnHalt, 0, "11 11 7 12345 7 \"c\" 7")
	wantDone(t, sourcesOf(t, "MODULE M; PROCEDURE Fib(n: INTEGER): INTEGER; BEGIN IF n < 2 THEN RETURN n END; RETURN Fib(n - 1) + Fib(n - 2) END Fib; PROCEDURE A(m, n: INTEGER): INTEGER; BEGIN IF m = 0 THEN RETURN n + 1 ELSIF n = 0 THEN RETURN A(m - 1, 1) ELSE RETURN A(m - 1, A(m, n - 1)) END END A; BEGIN WRITE(Fib(14)); WRITE(A(2, 3)) END M."), nil, impl.MaxFuel, impl.EnHalt, 0, "377 9")
}

// cellsText gives so many cells.
func cellsText(name string, many int) string {
	text := ""
	for at := 0; many > 0; at++ {
		length := min(many, 100)
		text += name + strconv.Itoa(at) + ": ARRAY " + strconv.Itoa(length) + " OF CHAR; "
		many -= length
	}
	return text
}

func TestRoomForVariablesOfModules(t *testing.T) {
	a := func(many int) string { return "MODULE A; VAR " + cellsText("a", many) + "BEGIN WRITE(1) END A." }
	m := func(many int) string {
		return "MODULE M; IMPORT A; VAR " + cellsText("m", many) + "PROCEDURE P(n: INTEGER); VAR x: INTEGER; BEGIN WRITE(3) END P; PROCEDURE Q(); BEGIN WRITE(4) END Q; BEGIN WRITE(2); Q(); P(1) END M."
	}
	far := "MODULE F; VAR " + cellsText("f", 3000) + "x: CHAR; END F."
	for _, c := range []struct {
		a, m, end, used int
		told            string
	}{
		{0, 0, impl.EnHalt, 8, "1 2 4 3"}, {1500, 1498, impl.EnHalt, 8, "1 2 4 3"}, {0, 2998, impl.EnHalt, 8, "1 2 4 3"}, {2998, 0, impl.EnHalt, 8, "1 2 4 3"}, {1500, 1499, impl.EnRoom, 7, "1 2 4"}, {1500, 1500, impl.EnRoom, 7, "1 2 4"}, {3000, 0, impl.EnRoom, 7, "1 2 4"}, {0, 3000, impl.EnRoom, 7, "1 2 4"},
		{1500, 1501, impl.EnRoom, 0, ""}, {3001, 0, impl.EnRoom, 0, ""}, {0, 3001, impl.EnRoom, 0, ""}, {3000, 3000, impl.EnRoom, 0, ""}, {3000, 1, impl.EnRoom, 0, ""},
	} {
		list := sourcesOf(t, far, a(c.a), m(c.m))
		if r := wantDone(t, list, nil, impl.MaxFuel, c.end, 0, c.told); r.Used != c.used {
			t.Errorf("%v: %v", c, r)
		}
		if c.used == 0 {
			wantDone(t, list, nil, 0, impl.EnRoom, 0, "")
		}
	}
	// A variable that is no array has a cell, an array of length 1, too.
	for many, end := range map[string]int{"x: INTEGER; y: BOOLEAN; ": impl.EnHalt, "x: INTEGER; y: ARRAY 1 OF CHAR; ": impl.EnHalt, "x, y, z: CHAR; ": impl.EnRoom, "x, y: CHAR; z: ARRAY 1 OF CHAR; ": impl.EnRoom, "x: ARRAY 2 OF CHAR; ": impl.EnHalt, "x: ARRAY 3 OF CHAR; ": impl.EnRoom} {
		told := map[int]string{impl.EnHalt: "5"}[end]
		wantDone(t, sourcesOf(t, "MODULE M; VAR "+cellsText("m", 2998)+many+"BEGIN WRITE(5) END M."), nil, 9, end, 0, told)
	}
}

func TestRoomForProcedures(t *testing.T) {
	text := "MODULE M; VAR n: INTEGER; PROCEDURE Down(n: INTEGER); BEGIN IF n > 0 THEN Down(n - 1) END END Down; PROCEDURE Round(); BEGIN Round() END Round; " +
		"PROCEDURE Sum(n: INTEGER): INTEGER; BEGIN IF n = 0 THEN RETURN 0 END; RETURN n + Sum(n - 1) END Sum; BEGIN "
	for _, c := range []struct{ calls, end int }{{1, impl.EnHalt}, {2, impl.EnHalt}, {48, impl.EnHalt}, {49, impl.EnHalt}, {50, impl.EnRoom}, {51, impl.EnRoom}, {1000, impl.EnRoom}} {
		told := "8"
		if c.end == impl.EnHalt {
			told = "8 9"
		}
		calls := strconv.Itoa(c.calls - 1)
		wantDone(t, sourcesOf(t, text+"WRITE(8); Down("+calls+"); WRITE(9) END M."), nil, impl.MaxFuel, c.end, 0, told)
		wantDone(t, sourcesOf(t, text+"WRITE(8); n := Sum("+calls+"); WRITE(9) END M."), nil, impl.MaxFuel, c.end, 0, told)
		// A second time there is as much room, and in another module, too.
		if c.end == impl.EnHalt {
			wantDone(t, sourcesOf(t, text+"Down("+calls+"); Down("+calls+"); WRITE(9) END M."), nil, impl.MaxFuel, c.end, 0, "9")
			list := sourcesOf(t, "MODULE A; PROCEDURE Down*(n: INTEGER); BEGIN IF n > 0 THEN Down(n - 1) END END Down; BEGIN Down("+calls+") END A.", "MODULE M; IMPORT A; BEGIN A.Down("+calls+"); WRITE(9) END M.")
			wantDone(t, list, nil, impl.MaxFuel, c.end, 0, "9")
		}
	}
	// The call that finds no room uses its own fuel ahead.
	round := sourcesOf(t, text+"Round() END M.")
	for fuel, end := range map[int]int{98: impl.EnFuel, 99: impl.EnFuel, 100: impl.EnRoom, 101: impl.EnRoom, 20000: impl.EnRoom} {
		if r := wantDone(t, round, nil, fuel, end, 0, ""); r.Used != min(fuel, 100) {
			t.Errorf("fuel %d: %v", fuel, r)
		}
	}
	// One behind the other there may be any number.
	wantDone(t, sourcesOf(t, text+"WHILE n < 2000 DO Down(0); n := n + 1 END; WRITE(n) END M."), nil, impl.MaxFuel, impl.EnHalt, 0, "2000")
}

func TestRoomForCells(t *testing.T) {
	for _, c := range []struct{ globals, first, second, end int }{
		{0, 2000, 1000, impl.EnHalt}, {0, 2000, 1001, impl.EnRoom}, {0, 1000, 2000, impl.EnHalt}, {0, 1001, 2000, impl.EnRoom}, {1000, 2000, 0, impl.EnHalt}, {1001, 2000, 0, impl.EnRoom}, {3000, 0, 0, impl.EnHalt}, {3000, 1, 0, impl.EnRoom}, {3000, 0, 1, impl.EnRoom},
		{2999, 1, 0, impl.EnHalt}, {2998, 1, 1, impl.EnHalt}, {2999, 1, 1, impl.EnRoom}, {1, 1999, 1000, impl.EnHalt}, {1, 1999, 1001, impl.EnRoom}, {500, 1000, 1500, impl.EnHalt}, {500, 1000, 1501, impl.EnRoom},
		// What is too wide for an object is not too wide here.
		{0, 2001, 999, impl.EnHalt}, {0, 2500, 500, impl.EnHalt}, {0, 2500, 501, impl.EnRoom}, {0, 3000, 0, impl.EnHalt}, {0, 3001, 0, impl.EnRoom}, {1, 3000, 0, impl.EnRoom},
	} {
		own := func(name string, many int) string {
			if many == 0 {
				return ""
			}
			return "VAR " + cellsText(name, many)
		}
		text := "MODULE M; " + own("g", c.globals) + "PROCEDURE Q(); " + own("q", c.second) + "BEGIN WRITE(2) END Q; PROCEDURE P(); " + own("p", c.first) + "BEGIN Q(); WRITE(1) END P; BEGIN P(); P() END M."
		tree, code, _ := impl.Parse(text)
		if code != impl.OK {
			t.Fatal("code", code)
		}
		told := "2 1 2 1"
		if c.end == impl.EnRoom {
			told = ""
		}
		wantDone(t, []impl.Source{{Name: "M", Tree: tree}}, nil, impl.MaxFuel, c.end, 0, told)
	}
	// A parameter has a cell, whether it has VAR or not.
	for _, param := range []string{"a: CHAR", "VAR a: CHAR"} {
		for _, c := range []struct{ cells, end int }{{2998, impl.EnHalt}, {2999, impl.EnRoom}} {
			text := "MODULE M; VAR x: CHAR; " + cellsText("g", c.cells) + "PROCEDURE P(" + param + "); BEGIN WRITE(1) END P; BEGIN P(x) END M."
			wantDone(t, sourcesOf(t, text), nil, 9, c.end, 0, map[int]string{impl.EnHalt: "1"}[c.end])
		}
	}
}

// What is too large for an object does what it says all the same.
func TestSourcesThatDoNotCompile(t *testing.T) {
	for _, c := range []struct {
		text, told string
	}{
		{modulesWith(120, "VAR ", "v#: CHAR; ", "BEGIN v119 := \"a\"; WRITE(v119); WRITE(v0)"), "\"a\" 00X"},
		{modulesWith(70, "", "PROCEDURE p#(); BEGIN WRITE(#) END p#; ", "BEGIN p0(); p69()"), "0 69"},
	} {
		list := sourcesOf(t, c.text)
		if _, code, _ := impl.Compile(list[0].Tree, nil); code != impl.ErrSize {
			t.Error("Compile: code", code)
		}
		wantDone(t, list, nil, 99, impl.EnHalt, 0, c.told)
	}
	list := []impl.Source{{Name: "M", Tree: deepModule(t, 62)}}
	if _, code, _ := impl.Compile(list[0].Tree, nil); code != impl.ErrSize {
		t.Error("Compile: code", code)
	}
	wantDone(t, list, nil, 99, impl.EnHalt, 0, "1")
}

func TestManyExportsAreEvaluated(t *testing.T) {
	user := "MODULE U; IMPORT M; BEGIN WRITE(M.c59) END U."
	for _, many := range []int{60, 61, 100} {
		text := strings.Replace(exporting(many, 0, 0), "END M.", "BEGIN WRITE(c0 + c59); WRITE(k) END M.", 1)
		wantDone(t, sourcesOf(t, user, text), nil, 9, impl.EnHalt, 0, "2 1")
		list := sourcesOf(t, text, user)
		if many == 60 {
			wantDone(t, list, nil, 9, impl.EnHalt, 0, "2 1 1")
			continue
		}
		if r, code := impl.Evaluate(list, "U", nil, 9); code != impl.ErrBad || !reflect.DeepEqual(r, impl.Result{}) {
			t.Errorf("%d exports that are imported: code %d, %v", many, code, r)
		}
	}
}

func TestModulesWithImportsAreEvaluated(t *testing.T) {
	list := sourcesOf(t,
		"MODULE A; CONST k* = 4; VAR x*: INTEGER; own: INTEGER; v*: ARRAY 2 OF INTEGER; PROCEDURE Next*(): INTEGER; BEGIN own := own + k; x := own; v[1] := -own; RETURN own END Next; BEGIN WRITE(1); own := 1 END A.",
		"MODULE B; IMPORT A; VAR own, y*: INTEGER; PROCEDURE Next*(): INTEGER; BEGIN own := own + 100; RETURN own + A.Next() END Next; BEGIN WRITE(2); y := A.Next(); WRITE(y) END B.",
		"MODULE C; BEGIN WRITE(99) END C.",
		"MODULE M; IMPORT B, A; VAR own, x: INTEGER; PROCEDURE Next(): INTEGER; VAR x: INTEGER; BEGIN x := x + A.x; own := own + 1; RETURN x END Next; BEGIN WRITE(3); x := B.Next(); WRITE(x); WRITE(A.x); WRITE(A.v[LEN(A.v) - 1]); WRITE(B.y); WRITE(A.Next()); WRITE(Next()); WRITE(own); WRITE(A.k) END M.")
	wantDone(t, list, nil, 99, impl.EnHalt, 0, "1 2 5 3 109 9 -9 5 13 13 1 4")
	r := wantEvaluated(t, list, "B", nil, 99)
	if got := toldBy(r); r.End != impl.EnHalt || got != "1 2 5" {
		t.Error("main B:", r)
	}
	// A module runs once, ahead of all that need it; where one stops, no other goes on.
	wantDone(t, sourcesOf(t, "MODULE A; BEGIN WRITE(1) END A.", "MODULE B; IMPORT A; BEGIN WRITE(2) END B.", "MODULE C; IMPORT A, B; BEGIN WRITE(3) END C.", "MODULE M; IMPORT C, B, A; BEGIN WRITE(4) END M."), nil, 99, impl.EnHalt, 0, "1 2 3 4")
	wantDone(t, sourcesOf(t, "MODULE A; BEGIN WRITE(1 DIV 0) END A.", "MODULE M; IMPORT A; BEGIN WRITE(4) END M."), nil, 99, impl.EnTrap, impl.TrZero, "")
	wantDone(t, sourcesOf(t, "MODULE A; BEGIN WRITE(1); WRITE(2) END A.", "MODULE M; IMPORT A; BEGIN WRITE(4) END M."), nil, 2, impl.EnFuel, 0, "1 2")
}
