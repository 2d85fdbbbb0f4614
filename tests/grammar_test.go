package tests

import (
	"math/rand"
	"strings"
	"testing"

	"loop.example/g00168/impl"
)

// documentGrammar is the grammar of chapter 3, written out: NAME, NUMBER and CHARACTER are tokens, a line is a rule, | parts what it may be.
const documentGrammar = `
module = MODULE NAME ; imports consts vars procs body .
imports = | IMPORT names ;
names = NAME | names , NAME
consts = | CONST constlist
constlist = | constlist given = expr ;
given = NAME | NAME *
vars = | VAR varlist
varlist = | varlist givens : type ;
givens = given | givens , given
type = base | ARRAY NUMBER OF base
base = INTEGER | BOOLEAN | CHAR
procs = | procs proc ;
proc = PROCEDURE given ( params ) result ; vars body
params = | paramlist | paramlist ;
paramlist = param | paramlist ; param
param = names : base | VAR names : base
result = | : base
body = END NAME | BEGIN block END NAME
block = perhaps | block ; perhaps
perhaps = | statement
statement = qualified args | designator := expr | IF expr THEN block elsifs else END | WHILE expr DO block END
statement = RETURN | RETURN expr | WRITE ( expr ) | READ ( designator )
elsifs = | elsifs ELSIF expr THEN block
else = | ELSE block
qualified = NAME | NAME . NAME
designator = qualified | qualified [ expr ]
args = ( ) | ( exprs ) | ( exprs , )
exprs = expr | exprs , expr
expr = sum | sum compare sum
compare = = | # | < | <= | > | >=
sum = term | sum + term | sum - term | sum OR term
term = unary | term * unary | term DIV unary | term MOD unary | term & unary
unary = - unary | ~ unary | primary
primary = NUMBER | CHARACTER | TRUE | FALSE | ( expr ) | ORD ( expr ) | CHR ( expr ) | LEN ( qualified ) | qualified args | designator
`

// recognizer goes along tokens by Earley's way; it knows the rules of the grammar alone.
type recognizer struct {
	rules map[string][][]string
	empty map[string]bool
}

func newRecognizer() *recognizer {
	r := &recognizer{rules: map[string][][]string{}, empty: map[string]bool{}}
	for _, line := range strings.Split(strings.TrimSpace(documentGrammar), "\n") {
		words := strings.Fields(line)
		body := []string{}
		for _, word := range words[2:] {
			if word == "|" {
				r.rules[words[0]] = append(r.rules[words[0]], body)
				body = []string{}
				continue
			}
			body = append(body, word)
		}
		r.rules[words[0]] = append(r.rules[words[0]], body)
	}
	for changed := true; changed; {
		changed = false
		for left, bodies := range r.rules {
			for _, body := range bodies {
				all := true
				for _, word := range body {
					all = all && r.empty[word]
				}
				if all && !r.empty[left] {
					r.empty[left], changed = true, true
				}
			}
		}
	}
	return r
}

type item struct {
	left          string
	rule, at, set int
}

func (r *recognizer) body(i item) []string { return r.rules[i.left][i.rule] }

// closed completes and predicts within the last of the sets.
func (r *recognizer) closed(sets [][]item, start []item) []item {
	have := map[item]bool{}
	var list []item
	add := func(i item) {
		if !have[i] {
			have[i] = true
			list = append(list, i)
		}
	}
	for _, i := range start {
		add(i)
	}
	here := len(sets)
	for k := 0; k < len(list); k++ {
		i := list[k]
		body := r.body(i)
		if i.at == len(body) {
			from := list
			if i.set < here {
				from = sets[i.set]
			}
			for _, waiting := range from {
				if b := r.body(waiting); waiting.at < len(b) && b[waiting.at] == i.left {
					add(item{waiting.left, waiting.rule, waiting.at + 1, waiting.set})
				}
			}
			continue
		}
		for rule := range r.rules[body[i.at]] {
			add(item{body[i.at], rule, 0, here})
		}
		if r.empty[body[i.at]] {
			add(item{i.left, i.rule, i.at + 1, i.set})
		}
	}
	return list
}

// reading is a text that is read token by token.
type reading struct {
	r    *recognizer
	sets [][]item
}

func (r *recognizer) begin() *reading {
	g := &reading{r: r}
	g.sets = append(g.sets, r.closed(nil, []item{{"module", 0, 0, 0}}))
	return g
}

// due is what may stand next.
func (g *reading) due() map[string]bool {
	words := map[string]bool{}
	for _, i := range g.sets[len(g.sets)-1] {
		if b := g.r.body(i); i.at < len(b) && g.r.rules[b[i.at]] == nil {
			words[b[i.at]] = true
		}
	}
	return words
}

func (g *reading) take(word string) bool {
	var moved []item
	for _, i := range g.sets[len(g.sets)-1] {
		if b := g.r.body(i); i.at < len(b) && b[i.at] == word {
			moved = append(moved, item{i.left, i.rule, i.at + 1, i.set})
		}
	}
	if len(moved) == 0 {
		return false
	}
	g.sets = append(g.sets, g.r.closed(g.sets, moved))
	return true
}

func (g *reading) whole() bool {
	for _, i := range g.sets[len(g.sets)-1] {
		if i.left == "module" && i.at == len(g.r.body(i)) {
			return true
		}
	}
	return false
}

func grammarWord(token impl.Token) string {
	switch token.Kind {
	case impl.TkName:
		return "NAME"
	case impl.TkNumber:
		return "NUMBER"
	case impl.TkChar:
		return "CHARACTER"
	}
	return token.Text
}

// firstWrong is the place of the first token that can not stand, of the end if it can not stand there, -1 of a whole text.
func (r *recognizer) firstWrong(t string, list []impl.Token) int {
	g := r.begin()
	for _, token := range list {
		if !g.take(grammarWord(token)) {
			return token.At
		}
	}
	if !g.whole() {
		return len(t)
	}
	return -1
}

// wantByGrammar holds Parse against the grammar.
func wantByGrammar(t *testing.T, r *recognizer, text string) int {
	t.Helper()
	list, code, place := impl.Tokens(text)
	tree, gotCode, gotPlace := impl.Parse(text)
	if code != impl.OK {
		if gotCode != code || gotPlace != place {
			t.Errorf("Parse(%q): code %d at %d, Tokens say %d at %d", text, gotCode, gotPlace, code, place)
		}
		return gotCode
	}
	wrong := r.firstWrong(text, list)
	switch gotCode {
	case impl.OK:
		if wrong != -1 || gotPlace != 0 || !impl.TreeOK(tree) {
			t.Errorf("Parse(%q) has a tree, wrong at %d", text, wrong)
		}
	case impl.ErrSyntax:
		if wrong != gotPlace {
			t.Errorf("Parse(%q): wrong at %d, want %d", text, gotPlace, wrong)
		}
	case impl.ErrName, impl.ErrRange, impl.ErrDeep:
		if wrong != -1 && wrong < gotPlace {
			t.Errorf("Parse(%q): code %d at %d, but wrong at %d already", text, gotCode, gotPlace, wrong)
		}
	case impl.ErrSize:
		if wrong != -1 || gotPlace != 0 {
			t.Errorf("Parse(%q): size at %d, but wrong at %d", text, gotPlace, wrong)
		}
	default:
		t.Errorf("Parse(%q): code %d", text, gotCode)
	}
	return gotCode
}

// grammarText has each way of each rule.
const grammarText = `MODULE M; IMPORT A, B, C; CONST a* = 1+2*3-4; b = ~TRUE & FALSE OR (1 # 2); c = -0AX; d = 1 <= 2 DIV 3 MOD 4;
VAR x, y*, z: INTEGER; v*: ARRAY 3 OF CHAR; w: BOOLEAN;
PROCEDURE P*(VAR p, o: INTEGER; q, r: CHAR; s: BOOLEAN;): INTEGER; VAR z, u*: BOOLEAN; BEGIN ; RETURN -p; END P;
PROCEDURE Q(); END Q; PROCEDURE R(VAR a: CHAR): CHAR; BEGIN RETURN END R; PROCEDURE S*(a: CHAR); VAR BEGIN END S;
BEGIN IF x = 1 THEN x := 2 ELSIF ~TRUE THEN A.f(x, 1,) ELSIF w THEN ELSE READ(v[x]) END;;
WHILE (x < 1) & (y >= 2) DO WRITE("a"); RETURN END; IF w THEN RETURN ELSE RETURN END; IF w THEN RETURN ELSIF w THEN END;
Q(); A.v[1] := LEN(A.v) + LEN(v) > ORD(CHR(A.b)); P(f(), g(1,), A.h(), A.v[x], v[0]); READ(A.x); x := B.y END M.`

// Each token is taken away, given twice, and each token that there is is put in its place and ahead of it.
func TestFaultsOfEachTokenInEachPlace(t *testing.T) {
	r := newRecognizer()
	list, code, _ := impl.Tokens(grammarText)
	if code != impl.OK || wantByGrammar(t, r, grammarText) != impl.OK {
		t.Fatal("the text of the grammar is not right:", code)
	}
	others := append(strings.Fields(documentKeys+" "+documentSigns), "x", "M", "P", "0", "7", "101", "\"a\"", "0AX")
	g := r.begin()
	for i, token := range list {
		ahead := grammarText[:token.At] + " "
		behind := ""
		if i+1 < len(list) {
			behind = " " + grammarText[list[i+1].At:]
		}
		due := g.due()
		for _, other := range others {
			one, _, _ := impl.Tokens(other)
			if due[grammarWord(one[0])] {
				continue // what comes of these, TestChangedTexts asks
			}
			for _, rest := range []string{" " + grammarText[token.At:], behind, ""} {
				_, code, place := impl.Parse(ahead + other + rest)
				if code != impl.ErrSyntax || place != len(ahead) {
					t.Errorf("%q in place of or ahead of %q at %d: code %d at %d", other, tokenText(t, token), token.At, code, place)
				}
			}
		}
		if !g.take(grammarWord(token)) {
			t.Fatal("the text of the grammar is not right at", token.At)
		}
	}
	if due := g.due(); len(due) != 0 {
		t.Error("something may stand behind the module:", due)
	}
}

// A text that stops at each of its places: it is not whole, and nothing ahead is at fault.
func TestTextsThatStop(t *testing.T) {
	list, _, _ := impl.Tokens(grammarText)
	for _, token := range list {
		for _, behind := range []string{"", " ", "\n(* a *) "} {
			text := strings.TrimRight(grammarText[:token.At], " \n") + behind
			n, code, place := impl.Parse(text)
			if code != impl.ErrSyntax || place != len(text) || n.Kind != 0 {
				t.Errorf("stopped ahead of %d: code %d at %d, want the end %d", token.At, code, place, len(text))
			}
		}
	}
	r := newRecognizer()
	for at := range grammarText {
		if wantByGrammar(t, r, grammarText[:at]) == impl.OK {
			t.Errorf("stopped at byte %d, the text is whole", at)
		}
	}
}

// changedTokens is a right text with some tokens taken away, given twice, put elsewhere or put in from others.
func changedTokens(source *rand.Rand, texts, others []string) string {
	list := append([]string{}, texts...)
	for range 1 + source.Intn(3) {
		at := source.Intn(len(list))
		to := source.Intn(len(list))
		switch source.Intn(5) {
		case 0:
			list = append(list[:at:at], list[at+1:]...)
		case 1:
			list = append(list[:at+1:at+1], list[at:]...)
		case 2:
			list[at] = others[source.Intn(len(others))]
		case 3:
			list = append(list[:at:at], append([]string{others[source.Intn(len(others))]}, list[at:]...)...)
		case 4:
			list[at], list[to] = list[to], list[at]
		}
	}
	return strings.Join(list, " ")
}

func TestChangedTexts(t *testing.T) {
	r := newRecognizer()
	source := rand.New(rand.NewSource(4))
	list, _, _ := impl.Tokens(grammarText)
	var whole []string
	for _, token := range list {
		whole = append(whole, tokenText(t, token))
	}
	others := append(strings.Fields(documentKeys+" "+documentSigns), "x", "M", "P", "0", "7", "\"a\"", ",", ";", ")", "ELSIF", "ELSE", "RETURN")
	codes := map[int]int{}
	for range 1500 {
		codes[wantByGrammar(t, r, changedTokens(source, whole, others))]++
	}
	short := strings.Fields("MODULE M ; IMPORT A ; CONST c = 1 ; VAR v : ARRAY 2 OF CHAR ; PROCEDURE P ( VAR a : CHAR ) ; END P ; BEGIN IF c THEN P ( 1 , ) ELSIF v [ 1 ] THEN RETURN ELSE x := - 1 END ; END M .")
	for range 6000 {
		codes[wantByGrammar(t, r, changedTokens(source, short, others))]++
	}
	for _, code := range []int{impl.OK, impl.ErrSyntax, impl.ErrName} {
		if codes[code] < 20 {
			t.Errorf("too few texts have the code %d: %v", code, codes)
		}
	}
}

// Promise 3, of any text: it has a right tree, or a code and a place.
func TestAnyTextHasATreeOrACode(t *testing.T) {
	r := newRecognizer()
	source := rand.New(rand.NewSource(5))
	for range 3000 {
		text := "MODULE M; " + randomText(source, 20)
		wantByGrammar(t, r, text)
		words, _ := randomWords(source, 30)
		wantByGrammar(t, r, words)
		wantByGrammar(t, r, "MODULE M; BEGIN "+words)
	}
}
