package route_test

import (
	"math"
	"slices"
	"strings"
	"testing"

	"conch/acts"
	"conch/api"
	"conch/auto"
	"conch/gram"
	"conch/route"
	"conch/sample"
)

// A short name: almost every test makes grammars.
var grammar = sample.Grammar

// names renders symbols by their names.
func names(g api.Gram, list []int) string {
	var words []string
	for _, s := range list {
		words = append(words, gram.Name(g, s))
	}
	return strings.Join(words, " ")
}

// symbols returns the symbols with these names.
func symbols(g api.Gram, text string) []int {
	var list []int
	for _, name := range strings.Fields(text) {
		list = append(list, gram.Find(g, name))
	}
	return list
}

// none is the text of a path that is expected to have no text.
const none = "none"

// same demands the paths of a grammar: "A s / A B" tells the path of the next state and its text.
func same(t *testing.T, g api.Gram, rows ...string) {
	t.Helper()
	r := agree(t, g)
	if r.Len() != len(rows) {
		t.Fatalf("%d states, want %d", r.Len(), len(rows))
	}
	for i, row := range rows {
		path, word, _ := strings.Cut(row, "/")
		path, word = strings.TrimSpace(path), strings.TrimSpace(word)
		if way, ok := r.Way(i); !ok || names(g, way) != path {
			t.Errorf("the path of state %d is %q %t, want %q", i, names(g, way), ok, path)
		}
		text, ok := r.Text(i)
		if word == none {
			missing(t, text, ok, "the text of state", i)
		} else if !ok || names(g, text) != word {
			t.Errorf("the text of state %d is %q %t, want %q", i, names(g, text), ok, word)
		}
	}
}

// missing demands an empty list and false.
func missing(t *testing.T, list []int, ok bool, what ...any) {
	t.Helper()
	if len(list) != 0 || ok {
		t.Errorf("%v: %v %t", what, short(list), ok)
	}
}

// of returns the paths of a grammar.
func of(t *testing.T, g api.Gram) *route.Routes {
	t.Helper()
	r, e := route.Of(g)
	if e != api.OK || r == nil {
		t.Fatalf("%s: %v with the error %d", short(g), r, e)
	}
	return r
}

// P16.1: the example of the chapter.
func TestExample(t *testing.T) {
	same(t, grammar("A B", "s", "s", "s : A s", "s : B"), " / ", "A / A", "B / B", "s / B", "A s / A B")
}

// P16.1: small grammars, also with empty rules and without terminals, and paths whose symbols have empty words.
func TestSmall(t *testing.T) {
	same(t, grammar("", "s", "s", "s :"), " / ", "s /")
	same(t, grammar("", "s", "s", "s : s", "s :"), " / ", "s /")
	same(t, grammar("", "s t", "s", "s : t t", "t :"), " / ", "s /", "t /", "t t /")
	same(t, grammar("A", "s", "s", "s : s A", "s : A"), " / ", "A / A", "s / A", "s A / A A")
	same(t, grammar("A B C", "s t", "s", "s : A t C", "t : B", "t :"), " / ", "A / A", "s / A C", "A B / A B", "A t / A", "A t C / A C")
	same(t, grammar("A B", "s", "s", "s : A A B", "s : B"), " / ", "A / A", "B / B", "s / B", "A A / A A", "A A B / A A B")
}

// P16.1: the number of the symbols decides, and not their names nor the order of the rules.
func TestNames(t *testing.T) {
	same(t, grammar("Z Y X", "u t s", "s", "s : t", "s : X t", "t : u Y", "t : Z Y", "u : X"),
		" / ", "Z / Z", "X / X", "u / X", "t / Z Y", "s / Z Y", "Z Y / Z Y", "X X / X X", "X t / X Z Y", "u Y / X Y")
}

// P16.1: the shorter path counts, although the longer one is smaller in its first symbols.
func TestShorter(t *testing.T) {
	same(t, grammar("A B C", "s t", "s", "s : A t", "s : t", "t : C"), " / ", "A / A", "C / C", "s / C", "t / C", "A t / A C")
	// Here the shorter one is the smaller one in its first symbol too.
	same(t, grammar("A B C", "s t", "s", "s : A t", "s : C C C t", "t : B"),
		" / ", "A / A", "C / C", "s / A B", "A B / A B", "A t / A B", "C C / C C", "C C C / C C C", "C C C t / C C C B")
	// The state after t C is also that after A A A C.
	same(t, grammar("A B C", "s t u", "s", "s : t u", "s : A A A u", "t : B", "u : C"),
		" / ", "A / A", "B / B", "s / B C", "t / B", "A A / A A", "t C / B C", "t u / B C", "A A A / A A A", "A A A u / A A A C")
	// The path of t has fewer symbols, and its text more.
	same(t, grammar("A B C", "s t u", "s", "s : t u", "s : A B u", "t : A A A A", "u : C"),
		" / ", "A / A", "s / A B C", "t / A A A A", "A A / A A", "A B / A B", "t C / A A A A C", "t u / A A A A C", "A A A / A A A", "A B u / A B C", "A A A A / A A A A")
	// Three lengths to the state after D, the least one by the greatest symbol.
	same(t, grammar("A B C D", "s t", "s", "s : A B t", "s : B t", "s : t", "t : D"),
		" / ", "A / A", "B / B", "D / D", "s / D", "t / D", "A B / A B", "B t / B D", "A B t / A B D")
}

// P16.1: of several paths of the same length the first symbol decides in which they differ, whatever comes behind it.
func TestSmallest(t *testing.T) {
	same(t, grammar("A B C", "s t", "s", "s : A t", "s : B t A", "t : C"),
		" / ", "A / A", "B / B", "s / A C", "A C / A C", "A t / A C", "B t / B C", "B t A / B C A")
	// A D E and B C E lead to the same state: D is greater than C, but A is smaller than B.
	same(t, grammar("A B C D E", "s t u v", "s", "s : B u", "s : A t", "t : D v", "u : C v", "v : E"),
		" / ", "A / A", "B / B", "s / A D E", "A D / A D", "A t / A D E", "B C / B C", "B u / B C E", "A D E / A D E", "A D v / A D E", "B C v / B C E")
	// They differ in the second symbol only.
	same(t, grammar("A B C", "s t v", "s", "s : A t", "t : C v A", "t : B v", "v : B A"),
		" / ", "A / A", "s / A B B A", "A B / A B", "A C / A C", "A t / A B B A", "A B B / A B B", "A B v / A B B A", "A C v / A C B A", "A B B A / A B B A", "A C v A / A C B A A")
	// A terminal is smaller than a nonterminal, and of two nonterminals the first one is.
	same(t, grammar("A B C", "s u t v", "s", "s : t v", "s : u v A", "s : C v B", "t : A", "u : B", "v : A B"),
		" / ", "A / A", "B / B", "C / C", "s / A A B", "u / B", "t / A", "C A / C A", "C v / C A B", "u v / B A B", "t v / A A B", "C A B / C A B", "C v B / C A B B", "u v A / B A B A")
}

// P16.1: a path with a symbol that has no word has no text, even if another path to the same state has one.
func TestWithoutWords(t *testing.T) {
	same(t, grammar("A B C", "s d t u", "s", "s : t u", "s : d u", "d : d A", "t : B", "u : C"),
		" / ", "B / B", "s / B C", "d / none", "t / B", "d A / none", "d C / none", "d u / none", "t u / B C")
	same(t, grammar("A", "s", "s", "s : s A"), " / ", "s / none", "s A / none")
	same(t, grammar("A", "s", "s", "s : A s"), " / ", "A / A", "s / none", "A s / none")
	same(t, grammar("A B", "s d e", "s", "s : A d B", "s : e", "d : d", "e :"), " / ", "A / A", "s /", "e /", "A d / none", "A d B / none")
	same(t, sample.Valid(), " / ", "A / A", "s / A", "t / none")
}

// find returns the state to which the symbols with these names lead.
func find(t *testing.T, g api.Gram, way string) int {
	t.Helper()
	states, _ := auto.Build(g)
	i := auto.Walk(states, 0, symbols(g, way))
	if i == -1 {
		t.Fatalf("%q leads nowhere", way)
	}
	return i
}

// P16.1: texts of just MaxWord terminals, and longer ones; witnesses may have one more, since they are not the word of a path.
func TestLongTexts(t *testing.T) {
	g := sample.Doubling("s more", "s : b4096 A", "s : b2048 b2048 C b4096", "s : C b2048 b2048", "s : more B", "more : b4096 b1 b1")
	g.Start = gram.Find(g, "s")
	r := agree(t, g)
	b := func(n int) []int { return slices.Repeat([]int{2}, n) }
	for _, x := range []struct {
		way  string
		want []int
	}{
		{"b4096", b(4096)}, {"b2048 b2048", b(4096)}, {"C b2048", append([]int{3}, b(2048)...)},
		{"b4096 A", nil}, {"b4096 b1", nil}, {"b4096 b1 b1", nil}, {"b2048 b2048 C", nil}, {"b2048 b2048 C b4096", nil},
		{"C b2048 b2048", nil}, {"more", nil}, {"more B", nil}, {"b2048 b2048 C b2048", nil},
	} {
		i := find(t, g, x.way)
		if way, ok := r.Way(i); !ok || len(way) > len(symbols(g, x.way)) {
			t.Errorf("the path to the state after %q is %q %t", x.way, names(g, way), ok)
		}
		text, ok := r.Text(i)
		end, ended := r.Witness(api.Clash{State: i})
		more, longer := r.Witness(api.Clash{State: i, Term: 3})
		if x.want == nil {
			missing(t, text, ok, "Text after", x.way)
			missing(t, end, ended, "Witness after", x.way)
			missing(t, more, longer, "Witness after", x.way)
		} else if !ok || !ended || !longer || !slices.Equal(text, x.want) || !slices.Equal(end, x.want) || !slices.Equal(more, slices.Concat(x.want, []int{3})) {
			t.Errorf("after %q: Text has %d terminals, %t; Witness %d, %t; %d, %t", x.way, len(text), ok, len(end), ended, len(more), longer)
		}
	}
}

// witnesses demands of a grammar these witnesses of its conflicts, in their order.
func witnesses(t *testing.T, g api.Gram, want ...string) {
	t.Helper()
	r := agree(t, g)
	list, e := acts.Clashes(g)
	if e != api.OK || len(list) != len(want) {
		t.Fatalf("%d conflicts, want %d", len(list), len(want))
	}
	for k, c := range list {
		text, ok := r.Witness(c)
		if want[k] == none {
			missing(t, text, ok, c)
		} else if !ok || names(g, text) != strings.TrimSpace(want[k]) {
			t.Errorf("the witness of %v is %q %t, want %q", c, names(g, text), ok, want[k])
		}
	}
}

// P16.1: witnesses of conflicts before terminals and before the end of input.
func TestWitness(t *testing.T) {
	witnesses(t, grammar("A B", "s", "s", "s : s A s", "s : B"), "B A B A")
	witnesses(t, grammar("A", "s t u", "s", "s : t", "s : u", "t : A", "u : A"), "A")
	witnesses(t, grammar("A", "s t u", "s", "s : t A", "s : u A", "t :", "u :"), "A")
	witnesses(t, grammar("A", "s t u", "s", "s : t", "s : u", "t :", "u :"), "")
	// The path is the shortest one to the state, although the terminal comes only after a longer one.
	witnesses(t, grammar("A B C", "s t", "s", "s : A s", "s : A s B s", "s : C", "t : s"), "A C B")
	witnesses(t, grammar("A B", "s t u", "s", "s : B t A", "s : B u A", "s : t", "s : u B", "t : A", "u : A", "u : A A"), "A A", "A A")
	witnesses(t, grammar("A B", "s d t u", "s", "s : d t", "s : d u", "d : d A", "t : B", "u : B"), none)
	// Three actions in one state before each of two terminals are two conflicts each.
	witnesses(t, grammar("A B C", "s t u v", "s", "s : t A", "s : u A", "s : v A", "s : t B", "s : u B", "s : v B", "t : C C", "u : C C", "v : C C"),
		"C C A", "C C A", "C C B", "C C B")
	witnesses(t, grammar("A B", "s", "s", "s : A s", "s : B"))
}

// extremes are numbers that are neither states nor symbols.
var extremes = []int{-1, -2, math.MinInt, math.MinInt + 1, math.MaxInt, math.MaxInt - 1, 1 << 31, 1 << 32, 1<<32 + 1, -1 << 31}

// P16.1, P6: numbers to which no state belongs.
func TestNoState(t *testing.T) {
	for _, g := range []api.Gram{grammar("", "s", "s", "s :"), grammar("A B", "s", "s", "s : A s", "s : B"), sample.Valid()} {
		r := of(t, g)
		for _, i := range append([]int{r.Len(), r.Len() + 1, 2 * r.Len(), -r.Len(), api.MaxStates}, extremes...) {
			nowhere(t, r, i)
		}
		if way, ok := r.Way(0); len(way) != 0 || !ok {
			t.Errorf("the path to state 0 is %v %t", way, ok)
		}
	}
}

// nowhere demands that there is nothing for state i.
func nowhere(t *testing.T, r *route.Routes, i int) {
	t.Helper()
	way, ok := r.Way(i)
	missing(t, way, ok, "Way", i)
	text, ok := r.Text(i)
	missing(t, text, ok, "Text", i)
	for _, term := range append([]int{0, 1, 2, 3}, extremes...) {
		text, ok := r.Witness(api.Clash{State: i, Term: term, A: api.Act{K: api.ActShift, N: 1}, B: api.Act{K: api.ActReduce}})
		missing(t, text, ok, "Witness", i, term)
	}
}

// P16.1, P6: a conflict needs only a state and a terminal. A number that is neither a terminal nor the end of input stands behind the
// text as it is: only a missing text leaves a conflict without a witness.
func TestAnyTerminal(t *testing.T) {
	g := grammar("A B", "s t", "s", "s : A t", "t : B")
	r := of(t, g)
	for i, name := range []string{"", "A", "A B", "A B", "A B"} {
		text := symbols(g, name)
		for _, a := range []api.Act{{}, {K: api.ActShift, N: -1}, {K: -7, N: math.MaxInt}} {
			for _, term := range append([]int{0, 1, 2, 3, 4, 5, -3}, extremes...) {
				want := text
				if term != 0 {
					want = append(slices.Clone(text), term)
				}
				if got, ok := r.Witness(api.Clash{State: i, Term: term, A: a, B: a}); !ok || !slices.Equal(got, want) {
					t.Errorf("the witness in state %d before %d is %v %t, want %v", i, term, got, ok, want)
				}
			}
		}
	}
}

// P16.1, P6: grammars without terminals, and with terminals that no rule has, have witnesses before any number too.
func TestTerminalOfNoRule(t *testing.T) {
	for _, terms := range []string{"", "A", "A B"} {
		g := grammar(terms, "s", "s", "s :")
		r := of(t, g)
		for i := range 2 {
			for _, term := range append([]int{1, 2, 3, 4}, extremes...) {
				if got, ok := r.Witness(api.Clash{State: i, Term: term}); !ok || !slices.Equal(got, []int{term}) {
					t.Errorf("%v: the witness in state %d before %d is %v %t", g, i, term, got, ok)
				}
			}
		}
	}
}

// P16.1, P6: without a text there is no witness, whatever the terminal is.
func TestWithoutText(t *testing.T) {
	r := of(t, grammar("A", "s", "s", "s : s A"))
	for _, term := range append([]int{0, 1, 2, 3}, extremes...) {
		for i := 1; i <= r.Len(); i++ {
			text, ok := r.Witness(api.Clash{State: i, Term: term})
			missing(t, text, ok, "Witness", i, term)
		}
	}
}

// P16.1: a nil receiver. Paths that no call made have no states either.
func TestNil(t *testing.T) {
	var none *route.Routes
	for _, r := range []*route.Routes{none, {}} {
		if n := r.Len(); n != 0 {
			t.Errorf("%d states", n)
		}
		for _, i := range append([]int{0, 1, 2}, extremes...) {
			nowhere(t, r, i)
		}
	}
}

// P16.1, P2: grammars that are not valid, by each condition of chapter 6, have its error and no paths.
func TestInvalid(t *testing.T) {
	for _, x := range sample.Invalid() {
		if r, e := route.Of(x.G); r != nil || e != x.E {
			t.Errorf("%s: %v with the error %d, want %d", short(x.G), r, e, x.E)
		}
	}
	of(t, sample.Valid())
}

// P16.1, P2: just MaxStates states, and one more.
func TestMaxStates(t *testing.T) {
	for n := api.MaxStates - 1; n <= api.MaxStates+2; n++ {
		g := sample.Sharp(n)
		if n <= api.MaxStates {
			if r := agree(t, g); r.Len() != n {
				t.Errorf("%d states, want %d", r.Len(), n)
			}
		} else if r, e := route.Of(g); r != nil || e != api.ErrMany {
			t.Errorf("%d states: %v with the error %d", n, r, e)
		}
	}
	if r, e := route.Of(sample.Remembering(16)); r != nil || e != api.ErrMany {
		t.Errorf("far more states: %v with the error %d", r, e)
	}
}

// P3: nil and empty lists are equivalent.
func TestNilAndEmpty(t *testing.T) {
	for _, terms := range [][]string{nil, {}} {
		for _, right := range [][]int{nil, {}} {
			same(t, api.Gram{Terms: terms, Nons: []string{"s", "t"}, Rules: []api.Rule{{Left: 1, Right: right}, {Left: 1, Right: []int{1, 2}}, {Left: 2, Right: right}}, Start: 1}, " / ", "s /", "s t /")
		}
		if r, e := route.Of(api.Gram{Terms: terms, Nons: []string{}, Rules: []api.Rule{}}); r != nil || e != api.ErrArg {
			t.Errorf("a grammar without nonterminals: %v with the error %d", r, e)
		}
	}
}

// P4, P5: the grammar is left as it is, and nothing of it is kept: what is done to it afterwards does not change the answers. Nor does
// what is done to an answer, or what was asked before.
func TestAnswersAreNew(t *testing.T) {
	plain := func() api.Gram { return grammar("A B", "s t", "s", "s : A t", "t : s B", "t :", "s : B s") }
	g := plain()
	r, other := of(t, g), of(t, grammar("A", "s", "s", "s : s A", "s : A"))
	if !gram.Same(g, plain()) {
		t.Errorf("the argument became %v", g)
	}
	for i := range g.Rules {
		clear(g.Rules[i].Right)
	}
	clear(g.Rules)
	clear(g.Terms)
	clear(g.Nons)
	before := answers(r)
	if want := answers(of(t, plain())); before != want {
		t.Errorf("then %s, before %s", before, want)
	}
	for i := range r.Len() {
		way, _ := r.Way(i)
		text, _ := r.Text(i)
		end, _ := r.Witness(api.Clash{State: i})
		more, _ := r.Witness(api.Clash{State: i, Term: 1})
		for _, list := range [][]int{way, text, end, more} {
			clear(append(list, -1))
			clear(list)
		}
		if after := answers(r); after != before || other.Len() != 4 {
			t.Errorf("then %s, before %s", after, before)
		}
	}
}
