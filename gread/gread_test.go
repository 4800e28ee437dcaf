package gread_test

import (
	"slices"
	"strconv"
	"strings"
	"testing"

	"conch/api"
	"conch/fault"
	"conch/gread"
	"conch/gtok"
)

// The errors of Parse, by the names that the tables use.
const (
	twice = api.ErrTwice
	none  = api.ErrNone
	many  = api.ErrMany
	token = api.ErrToken
	ended = api.ErrEnd
)

// marked refuses a source in which a ^, which is not part of it, stands ahead of the wrong token.
func marked(t *testing.T, s string, e api.Errno) {
	t.Helper()
	head, tail, ok := strings.Cut(s, "^")
	if !ok {
		t.Fatalf("%s has no mark", cut(s))
	}
	refuse(t, head+tail, e, len(head))
	if _, want, at := model(head + tail); want != e || at != len(head) {
		t.Errorf("%s: the model has %d at %d", cut(s), want, at)
	}
}

// list returns n pieces made of the numbers from 0 on, joined by blanks.
func list(n int, piece func(i int) string) string {
	var all []string
	for i := range n {
		all = append(all, piece(i))
	}
	return strings.Join(all, " ")
}

// by returns a piece with the number put where the # stands.
func by(text string) func(i int) string {
	return func(i int) string { return strings.ReplaceAll(text, "#", strconv.Itoa(i)) }
}

// P7.1, P7.2: the grammar of a source.
func TestGrammar(t *testing.T) {
	for _, x := range []struct{ s, want string }{
		// the chapter's example
		{"%token A %% s : A s | ;", `["A"] ["s"] 2 2[1 2] 2[]`},
		// no declarations
		{"%% s : ;", `[] ["s"] 1 1[]`},
		{"%%s:'x';", `["'x'"] ["s"] 2 2[1]`},
		{"%% s : s ;", `[] ["s"] 1 1[1]`},
		// an empty right side: alone, first, in the middle, last
		{"%% s : | 'x' ;", `["'x'"] ["s"] 2 2[] 2[1]`},
		{"%% s : 'x' | | 'y' ;", `["'x'" "'y'"] ["s"] 3 3[1] 3[] 3[2]`},
		{"%% s : 'x' | ;", `["'x'"] ["s"] 2 2[1] 2[]`},
		{"%% s : ; t : ; u : | s ;", `[] ["s" "t" "u"] 1 1[] 2[] 3[] 3[1]`},
		// terminals that are declared, in their order
		{"%token B A %% s : A B ;", `["B" "A"] ["s"] 3 3[2 1]`},
		{"%token B %token A %% s : A ;", `["B" "A"] ["s"] 3 3[2]`},
		{"%token A %% s : ;", `["A"] ["s"] 2 2[]`},
		{"%token 'x' %% s : ;", `["'x'"] ["s"] 2 2[]`},
		{"%token 'y' A 'x' %% s : 'x' 'y' A ;", `["'y'" "A" "'x'"] ["s"] 4 4[3 1 2]`},
		// quoted tokens that are declared, and quoted tokens that are not
		{"%% s : 'x' 'y' | 'z' 'x' ;", `["'x'" "'y'" "'z'"] ["s"] 4 4[1 2] 4[3 1]`},
		{"%token 'y' %% s : 'x' 'y' ;", `["'y'" "'x'"] ["s"] 3 3[2 1]`},
		{"%token 'b' A %% s : 'c' 'b' t ; t : 'a' 'c' A ;", `["'b'" "A" "'c'" "'a'"] ["s" "t"] 5 5[3 1 6] 6[4 3 2]`},
		{"%token x %% s : 'x' x ; y : 'y' y ;", `["x" "'x'" "'y'"] ["s" "y"] 4 4[2 1] 5[3 5]`},
		{"%% s : 's' s | '%%' | ';' | '|' ':' | '/*' '%token' ;", `["'s'" "'%%'" "';'" "'|'" "':'" "'/*'" "'%token'"] ["s"] 8 8[1 8] 8[2] 8[3] 8[4 5] 8[6 7]`},
		// nonterminals in the order of their first occurrence before a colon
		{"%% s : u t ; t : s ; u : ;", `[] ["s" "t" "u"] 1 1[3 2] 2[1] 3[]`},
		{"%% z : ; a : z m ; m : ;", `[] ["z" "a" "m"] 1 1[] 2[1 3] 3[]`},
		{"%start a %% z : ; a : m ; m : ;", `[] ["z" "a" "m"] 2 1[] 2[3] 3[]`},
		// several rules with one left side
		{"%% s : 'x' ; s : 'y' ;", `["'x'" "'y'"] ["s"] 3 3[1] 3[2]`},
		{"%% s : t ; t : s ; s : ; t : | t ;", `[] ["s" "t"] 1 1[2] 2[1] 1[] 2[] 2[2]`},
		{"%% s : ; t : ; s : s | t | s t | t s ;", `[] ["s" "t"] 1 1[] 2[] 1[1] 1[2] 1[1 2] 1[2 1]`},
		// Start
		{"%start s %% s : ; t : ;", `[] ["s" "t"] 1 1[] 2[]`},
		{"%start t %% s : ; t : ;", `[] ["s" "t"] 2 1[] 2[]`},
		{"%start t %% s : ; t : ; s : s ;", `[] ["s" "t"] 2 1[] 2[] 1[1]`},
		{"%token A %start t %token B %% s : 'x' ; t : B ;", `["A" "B" "'x'"] ["s" "t"] 5 4[3] 5[2]`},
		{"%start t %token A %% s : A ; t : ;", `["A"] ["s" "t"] 3 2[1] 3[]`},
		// names that look like something else
		{"%token token start %% s1 : token ; _ : start ;", `["token" "start"] ["s1" "_"] 3 3[1] 4[2]`},
		{"%token s %% S : s S ;", `["s"] ["S"] 2 2[1 2]`},
		// gaps
		{"%token/**/A%%s:A|;", `["A"] ["s"] 2 2[1] 2[]`},
		{"\t%token A /* %start ; */\r\n%%\n\ns : A\n\t| 'x'\n\t;\n", `["A" "'x'"] ["s"] 3 3[1] 3[2]`},
	} {
		accept(t, x.s, x.want)
		agree(t, x.s)
	}
}

// place is a place of the form: what is ahead of it, and the kinds of tokens that can stand there.
type place struct {
	ahead string
	kinds []int
}

// places are all places of the form, each reached in several ways.
func places() []place {
	between := []int{api.GToken, api.GStart, api.GMark}
	symbol := []int{api.GName, api.GQuoted}
	term := slices.Concat(between, symbol)
	name := []int{api.GName}
	side := slices.Concat(symbol, []int{api.GBar, api.GSemi})
	return []place{
		{"", between}, {"%start s", between}, {"%token A %start s", between}, {"%start s %start t", between},
		{"%token", symbol}, {"%start s %token", symbol}, {"%token A %token", symbol},
		{"%token A", term}, {"%token 'x'", term}, {"%token A 'x'", term}, {"%token A %token A", term}, {"%start s %token A", term},
		{"%start", name}, {"%token A %start", name}, {"%start s %start", name},
		{"%%", name}, {"%token A %%", name}, {"%start s %%", name},
		{"%% s", []int{api.GColon}}, {"%% s : ; s", []int{api.GColon}}, {"%token A %% A", []int{api.GColon}},
		{"%% s :", side}, {"%% s : A", side}, {"%% s : 'x'", side}, {"%% s : A 'x'", side}, {"%% s : |", side}, {"%% s : | |", side},
		{"%% s : A | 'x'", side}, {"%% s : ; t :", side}, {"%% s : ; s : | s", side},
		{"%% s : ;", []int{api.GName, api.GEnd}}, {"%% s : A | 'x' ;", []int{api.GName, api.GEnd}}, {"%% s : | ; t : ;", []int{api.GName, api.GEnd}},
	}
}

// each is a text of each kind of token.
func each() map[int][]string {
	return map[int][]string{
		api.GEnd: {"", "/**/", "\n"}, api.GName: {"s", "A", "z9"}, api.GQuoted: {"'x'", "';'"}, api.GColon: {":"}, api.GBar: {"|"},
		api.GSemi: {";"}, api.GMark: {"%%"}, api.GToken: {"%token"}, api.GStart: {"%start"},
	}
}

// P7.1: a token that cannot stand where it is, and the end there, is an error of the form, and no other is.
func TestForm(t *testing.T) {
	for _, p := range places() {
		for kind, list := range each() {
			for _, text := range list {
				s := p.ahead + " " + text
				switch {
				case slices.Contains(p.kinds, kind):
					fits(t, s, kind == api.GEnd)
				case kind == api.GEnd:
					refuse(t, s, ended, len(s))
					refuse(t, p.ahead, ended, len(p.ahead))
				default:
					refuse(t, s, token, len(p.ahead)+1)
					refuse(t, s+" : : %% ;", token, len(p.ahead)+1)
					refuse(t, s+" ; %token A %% s : | ; ;", token, len(p.ahead)+1)
				}
			}
		}
	}
}

// fits reads s, in which each token can stand where it is; if it is not whole, there may be too few.
func fits(t *testing.T, s string, whole bool) {
	t.Helper()
	if _, err := gread.Parse(s); fault.Is(err, token) || whole && fault.Is(err, ended) {
		t.Errorf("%s is %d at %d", cut(s), fault.Code(err), fault.At(err))
	}
	agree(t, s)
}

// P7.1: the empty text, and others without any tokens, end too early.
func TestEmpty(t *testing.T) {
	for _, s := range []string{"", " ", "\n\t", "/* a */", "/**/ /**/\r\n"} {
		refuse(t, s, ended, len(s))
	}
}

// P7.1: whatever ends ahead of the end of a source is an error there, unless a rule has just ended.
func TestCutOff(t *testing.T) {
	const s = "%token A 'x' %start t %token B\n%% s : A t | | 'y' ; t : B ; s : 'x' s ;"
	toks, err := gtok.All(s)
	if err != nil {
		t.Fatal(err)
	}
	mark := strings.Index(s, "%%")
	for _, tok := range toks {
		head := s[:tok.At]
		if tok.At > mark && strings.HasSuffix(strings.TrimSpace(head), ";") {
			agree(t, head)
			if _, err := gread.Parse(head); fault.Is(err, ended) {
				t.Errorf("%q ends too early", head)
			}
		} else if tok.K != api.GEnd {
			refuse(t, head, ended, len(head))
		}
	}
}

// P7.1: each error of the tokens is returned, whatever else is wrong ahead of it.
func TestTokenErrors(t *testing.T) {
	long := strings.Repeat("a", api.MaxName+1)
	for _, ahead := range []string{"", "%% s : ", "%% s : | ", "%% : ", "%token A A %% s : t ", "; %start %start ", "%% s : ; "} {
		for _, x := range []struct {
			text string
			e    api.Errno
			in   int // how far into the text
		}{
			{"?", api.ErrChar, 0}, {"%", api.ErrChar, 0}, {"%tokens", api.ErrChar, 0}, {"/", api.ErrChar, 0}, {"1", api.ErrChar, 0},
			{"''", api.ErrChar, 1}, {"'a b'", api.ErrChar, 2}, {long, api.ErrLong, 0}, {"'" + long + "'", api.ErrLong, 0},
		} {
			refuse(t, ahead+x.text, x.e, len(ahead)+x.in)
			refuse(t, ahead+x.text+" ; ? : %", x.e, len(ahead)+x.in)
		}
		for _, text := range []string{"'", "'a", "/*", "/* a ;", "/*/"} {
			refuse(t, ahead+text, api.ErrEnd, len(ahead+text))
		}
	}
}

// P7.1: a source may have MaxGram bytes; one more is too many, whatever it says.
func TestMaxGram(t *testing.T) {
	for _, s := range []string{"%% s : ;", "%% s : 'x' | s 'x' ;"} {
		want, e, _ := model(s)
		if e != api.OK {
			t.Fatal(s)
		}
		full := s + strings.Repeat(" ", api.MaxGram-len(s))
		accept(t, full, show(want))
		refuse(t, full+" ", api.ErrLong, 0)
		refuse(t, strings.Repeat(" ", api.MaxGram-len(s)+1)+s, api.ErrLong, 0)
	}
	refuse(t, strings.Repeat("?", api.MaxGram+1), api.ErrLong, 0)
	refuse(t, strings.Repeat(";", api.MaxGram), token, 0)
	refuse(t, "%%"+strings.Repeat("s:;", 2730), twice, 7) // as many rules as there can be
	refuse(t, "%%s:"+strings.Repeat("|", api.MaxGram-5)+";", twice, 5)
	refuse(t, "%%s:"+strings.Repeat("s ", (api.MaxGram-6)/2)+";", many, 20)
}

// P7.1: ErrTwice, alone, at each place where it can be.
func TestTwice(t *testing.T) {
	for _, s := range []string{
		// a terminal
		"%token A ^A %% s : ;", "%token A B ^A %% s : ;", "%token A B ^B A %% s : ;", "%token 'x' ^'x' %% s : ;", "%token A 'x' B ^'x' %% s : ;",
		"%token A %token ^A %% s : A ;", "%token A %start s %token B ^A %% s : ;", "%token 'x' %token ^'x' %% s : 'x' ;", "%token A ^A A A %% s : ;",
		// a %start
		"%start s ^%start s %% s : ;", "%start s ^%start t %% s : ; t : ;", "%start s %token A ^%start s %% s : ;", "%start s ^%start s %start s %% s : ;",
		// a name before a colon
		"%token A %% ^A : ;", "%token A %% s : ; ^A : ;", "%token A B %% s : A | B ; ^B : ;", "%token A %% s : A ; t : ; s : t ; ^A : 'x' ;",
		"%token A %start A %% ^A : ;", "%token A %% s : ; ^A : ; A : ;",
		// a right side that begins with a symbol
		"%% s : 'x' | ^'x' ;", "%% s : s | ^s ;", "%token A %% s : A | ^A ;", "%% s : 'x' | 's' | ^'x' ;", "%% s : 'x' 'y' | ^'x' 'y' ;",
		"%% s : 'x' ; s : ^'x' ;", "%% s : 'x' ; t : 'x' ; s : 'y' | ^'x' | 'y' ;", "%% s : 'x' | ^'x' | 'x' ;", "%% s : t ; t : s ; t : ^s ;",
		"%% s : 's' s t | t | ^'s' s t ; t : ;", "%% s : 'a' 'b' 'c' 'd' 'e' 'f' 'g' 'h' | ^'a' 'b' 'c' 'd' 'e' 'f' 'g' 'h' ;",
		// an empty one, at the bar or the semicolon
		"%% s : | ^| 'x' ;", "%% s : | ^;", "%% s : ; s : ^;", "%% s : ; s : ^| s ;", "%% s : ; s : s | ^;", "%% s : | 'x' | ^| 'y' ;",
		"%% s : ; t : | 's' | ^;", "%% s : | ^| | ;", "%% s : 'x' ; t : ; s : | t ; t : t | ^;",
	} {
		marked(t, s, twice)
	}
}

// P7.1: what only resembles something that is there already is no error.
func TestOnce(t *testing.T) {
	for _, s := range []string{
		"%token A a AA _A 'A' 'a' %% s : ;", "%token x 'x' %% s : x 'x' ;", "%% x : 'x' x ;", "%token S %start s %% s : ;",
		"%% s : 'x' ; t : 'x' ;", "%% s : ; t : ;", "%% s : | s | s s | s s s ;", "%% s : s t | t s | s | t ; t : ;", "%% s : 'a' 'b' | 'ab' | 'b' 'a' ;",
		"%% a : b c ; b : a c | c ; c : ;", "%% a : a b ; b : ab ; ab : a b ;", "%% s : s ; ss : s ; sss : ss s | s ss ;", "%% s : 's' | s ;",
		"%% s : 's' 's' | 's' | ; t : 's' 's' | 's' | ;", "%token 'x' %% s : 'x' | 'x' 'x' ;",
	} {
		if _, err := gread.Parse(s); err != nil {
			t.Errorf("%s is %d at %d", cut(s), fault.Code(err), fault.At(err))
		}
		agree(t, s)
	}
}

// P7.1: ErrNone, alone, at each place where it can be.
func TestNone(t *testing.T) {
	for _, s := range []string{
		// a name on a right side
		"%% s : ^t ;", "%% s : s ^t ;", "%% s : s ^t s ;", "%% s : | ^t ;", "%% s : ^t | ;", "%% s : 'x' ; u : s | s ^t ;", "%% s : ^t ; u : t ;",
		"%token A %% s : ^a ;", "%token A %% s : A ^AA ;", "%token 'x' %% s : ^x ;", "%% s : 't' ^t ;", "%start s %% s : ^t ;", "%% s : s s s s s s s ^t ;",
		"%% s : ^t t | t t ;",
		// the name behind %start
		"%start ^t %% s : ;", "%start ^A %token A %% s : ;", "%token A %start ^A %% s : A ;", "%token A %start ^t %token B %% s : ;", "%start ^x %% s : 'x' ;",
		"%start ^S %% s : ;",
	} {
		marked(t, s, none)
	}
}

// P7.1: names of later rules, and declared ones, are there.
func TestLater(t *testing.T) {
	for _, s := range []string{"%% s : t ; t : ;", "%% s : t u ; u : t ; t : u ;", "%start u %% s : ; t : ; u : ;", "%token A B %% s : B A ;", "%start s %token t %% s : t ;"} {
		if _, err := gread.Parse(s); err != nil {
			t.Errorf("%s is %d at %d", cut(s), fault.Code(err), fault.At(err))
		}
		agree(t, s)
	}
}
