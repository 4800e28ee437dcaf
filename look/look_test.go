package look_test

import (
	"slices"
	"strings"
	"testing"

	"conch/api"
	"conch/auto"
	"conch/gram"
	"conch/look"
	"conch/sample"
)

// A short name: almost every test makes grammars.
var grammar = sample.Grammar

// shown renders what ends in a state, such as "s : A s . / $ | t : . / A B".
func shown(g api.Gram, l []api.Look) string {
	var list []string
	for _, x := range l {
		r, _ := gram.Rule(g, x.Rule)
		words := []string{sample.Item(g, api.Item{Rule: x.Rule, Dot: len(r.Right)}), "/"}
		for _, s := range x.Terms {
			words = append(words, gram.Name(g, s))
		}
		list = append(list, strings.Join(words, " "))
	}
	return strings.Join(list, " | ")
}

// symbols returns the symbols with these names.
func symbols(g api.Gram, names string) []int {
	var list []int
	for _, name := range strings.Fields(names) {
		list = append(list, gram.Find(g, name))
	}
	return list
}

// same demands what ends in the states of a grammar: "A s > s : A s . / $" tells it of the state to which A s leads from state 0.
// In the states that are not named nothing may end.
func same(t *testing.T, g api.Gram, want ...string) {
	t.Helper()
	states, _ := auto.Build(g)
	l, e := look.Of(g)
	if e != api.OK || len(l) != len(states) {
		t.Fatalf("%s: %d lists and error %d, want %d", short(g), len(l), e, len(states))
	}
	texts := make([]string, len(states))
	for _, x := range want {
		way, text, _ := strings.Cut(x, ">")
		i := auto.Walk(states, 0, symbols(g, way))
		if i == -1 || texts[i] != "" {
			t.Fatalf("%s: %q leads to state %d", short(g), way, i)
		}
		texts[i] = strings.TrimSpace(text)
	}
	for i, x := range l {
		if text := shown(g, x); text != texts[i] {
			t.Errorf("%s: in state %d ends %q, want %q", short(g), i, text, texts[i])
		}
	}
	agree(t, g)
}

// P14.1: the example of the chapter, and one in which the same symbols come in other states.
func TestExample(t *testing.T) {
	same(t, grammar("A B", "s", "s", "s : A s", "s : B"),
		"B > s : B . / $", "s > $ : s . / $", "A s > s : A s . / $")
	same(t, grammar("A B C D E", "s t u", "s", "s : A t D", "s : B t C", "s : A u C", "s : B u D", "t : E", "u : E"),
		"A E > t : E . / C D | u : E . / C D", "s > $ : s . / $",
		"A t D > s : A t D . / $", "B t C > s : B t C . / $", "A u C > s : A u C . / $", "B u D > s : B u D . / $")
}

// P14.1: grammars with one rule.
func TestOneRule(t *testing.T) {
	same(t, grammar("", "s", "s", "s :"), "> s : . / $", "s > $ : s . / $")
	same(t, grammar("", "s", "s", "s : s"), "s > s : s . / $ | $ : s . / $")
	same(t, grammar("", "s", "s", "s : s s"), "s > $ : s . / $", "s s > s : s s . / $")
	same(t, grammar("A", "s", "s", "s : A"), "A > s : A . / $", "s > $ : s . / $")
	same(t, grammar("A", "s", "s", "s : A A A"), "A A A > s : A A A . / $", "s > $ : s . / $")
	same(t, grammar("A", "s", "s", "s : s A"), "s A > s : s A . / $ A", "s > $ : s . / $")
	same(t, grammar("A", "s", "s", "s : A s"), "A s > s : A s . / $", "s > $ : s . / $")
	same(t, grammar("A B", "s", "s", "s : A s B"), "A s B > s : A s B . / $ B", "s > $ : s . / $")
}

// P14.1: states in which several rules end, in the order of their numbers, wherever their items come from, with the augmented
// rule behind all others.
func TestSeveral(t *testing.T) {
	same(t, grammar("A B", "s t u", "s", "t :", "s : s t A", "s : s", "s : B", "u :", "s : s u B"),
		"B > s : B . / $ A B",
		"s > t : . / A | s : s . / $ A B | u : . / B | $ : s . / $",
		"s t A > s : s t A . / $ A B",
		"s u B > s : s u B . / $ A B")
	same(t, grammar("A B C", "s t u v", "s", "v :", "u :", "t :", "s : v A", "s : t B", "s : u C", "s :"),
		"> v : . / A | u : . / C | t : . / B | s : . / $",
		"s > $ : s . / $", "v A > s : v A . / $", "t B > s : t B . / $", "u C > s : u C . / $")
	same(t, grammar("A B C", "s t u", "s", "u : A", "s : t B", "s : u C", "t : A", "s : A"),
		"A > u : A . / C | t : A . / B | s : A . / $",
		"s > $ : s . / $", "t B > s : t B . / $", "u C > s : u C . / $")
	// The nonterminals have their numbers, and so their transitions, in another order than their rules.
	same(t, grammar("A B", "s t u", "s", "u :", "t :", "s : u t A", "s : t u B"),
		"> u : . / A | t : . / B",
		"u > t : . / A", "t > u : . / B",
		"s > $ : s . / $", "u t A > s : u t A . / $", "t u B > s : t u B . / $")
}

// P14.1: the augmented rule with other rules in its state.
func TestAugmented(t *testing.T) {
	same(t, grammar("A", "s t", "s", "s : t", "s : A", "t : s"),
		"A > s : A . / $", "t > s : t . / $", "s > t : s . / $ | $ : s . / $")
	same(t, grammar("A B", "s t", "s", "s : t A", "t : s", "s : B"),
		"B > s : B . / $ A", "s > t : s . / A | $ : s . / $", "t A > s : t A . / $ A")
	same(t, grammar("A B", "s t", "s", "s : s t B", "t :", "t : A", "s :"),
		"> s : . / $ A B", "s > t : . / B | $ : s . / $", "s A > t : A . / B", "s t B > s : s t B . / $ A B")
	// Where Start stands on a right side, but not at the beginning, the augmented rule doesn't end.
	same(t, grammar("A B", "s", "s", "s : A s", "s : A s B", "s :"),
		"> s : . / $", "A > s : . / $ B", "s > $ : s . / $", "A s > s : A s . / $ B", "A s B > s : A s B . / $ B")
}

// P14.1: rules with an empty right side end where they begin.
func TestEmptyRules(t *testing.T) {
	same(t, grammar("A", "s t", "s", "s : t A", "t :"), "> t : . / A", "s > $ : s . / $", "t A > s : t A . / $")
	same(t, grammar("A", "s t", "s", "s : t t A", "t :"), "> t : . / A", "t > t : . / A", "s > $ : s . / $", "t t A > s : t t A . / $")
	same(t, grammar("A", "s t", "s", "s : A t A t", "t :"), "A > t : . / A", "A t A > t : . / $", "s > $ : s . / $", "A t A t > s : A t A t . / $")
	same(t, grammar("A", "s", "s", "s : s A", "s :"), "> s : . / $ A", "s > $ : s . / $", "s A > s : s A . / $ A")
	same(t, grammar("A B", "s", "s", "s : A s B", "s :"), "> s : . / $", "A > s : . / B", "s > $ : s . / $", "A s B > s : A s B . / $ B")
	same(t, grammar("A B C", "s t", "s", "s : t A", "s : B t C", "t :"),
		"> t : . / A", "B > t : . / C", "s > $ : s . / $", "t A > s : t A . / $", "B t C > s : B t C . / $")
	same(t, grammar("A", "s t", "s", "s : A t", "t :", "s : A"), "A > t : . / $ | s : A . / $", "s > $ : s . / $", "A t > s : A t . / $")
	same(t, grammar("", "s t u", "s", "s : t u", "t : u u", "u :"),
		"> u : . / $", "u > u : . / $", "t > u : . / $", "s > $ : s . / $", "u u > t : u u . / $", "t u > s : t u . / $")
}

// P14.1: what can be empty behind a symbol, and what can't.
func TestEmptyBehind(t *testing.T) {
	same(t, grammar("A B C", "s t u", "s", "s : t u A", "t : B", "u : C"),
		"B > t : B . / C", "t C > u : C . / A", "s > $ : s . / $", "t u A > s : t u A . / $")
	same(t, grammar("A B C", "s t u", "s", "s : t u A", "t : B", "u : C", "u :"),
		"B > t : B . / A C", "t > u : . / A", "t C > u : C . / A", "s > $ : s . / $", "t u A > s : t u A . / $")
	same(t, grammar("A B", "s t u", "s", "s : t u", "t : A", "u : B", "u :"),
		"A > t : A . / $ B", "t > u : . / $", "t B > u : B . / $", "s > $ : s . / $", "t u > s : t u . / $")
	same(t, grammar("A B C D", "s t u v", "s", "s : t u v A", "t : B", "u : C", "u :", "v : D", "v :"),
		"B > t : B . / A C D", "t > u : . / A D", "t C > u : C . / A D", "t u > v : . / A", "t u D > v : D . / A", "s > $ : s . / $", "t u v A > s : t u v A . / $")
	same(t, grammar("A B C", "s t u v", "s", "s : t u v", "t : A", "u : v v", "v : B", "v :"),
		"A > t : A . / $ B", "t > v : . / $ B", "t B > v : B . / $ B", "t v > v : . / $ B", "t u > v : . / $",
		"t v v > u : v v . / $ B", "t u v > s : t u v . / $", "s > $ : s . / $")
	// Behind one that can be empty comes one that can't.
	same(t, grammar("A B C", "s t u v", "s", "s : t u v", "t : A", "u : B", "u :", "v : C"),
		"A > t : A . / B C", "t > u : . / C", "t B > u : B . / C", "t u C > v : C . / $", "s > $ : s . / $", "t u v > s : t u v . / $")
	// Behind one that can't be empty comes one that can.
	same(t, grammar("A B C", "s t u v", "s", "s : t u v", "t : A", "u : B", "v : C", "v :"),
		"A > t : A . / B", "t B > u : B . / $ C", "t u > v : . / $", "t u C > v : C . / $", "s > $ : s . / $", "t u v > s : t u v . / $")
}

// P14.1: the longest right sides, of which all or almost all behind the first symbol can be empty.
func TestLongBehind(t *testing.T) {
	same(t, grammar("A", "s t u", "s", "s : t u u u u u u u", "t : A", "u :"),
		"A > t : A . / $", "t > u : . / $", "t u > u : . / $", "t u u > u : . / $", "t u u u > u : . / $", "t u u u u > u : . / $",
		"t u u u u u > u : . / $", "t u u u u u u > u : . / $", "t u u u u u u u > s : t u u u u u u u . / $", "s > $ : s . / $")
	same(t, grammar("A B", "s t u", "s", "s : t u u u u u u B", "t : A", "u :"),
		"A > t : A . / B", "t > u : . / B", "t u > u : . / B", "t u u > u : . / B", "t u u u > u : . / B", "t u u u u > u : . / B",
		"t u u u u u > u : . / B", "t u u u u u u B > s : t u u u u u u B . / $", "s > $ : s . / $")
}

// P14.1: behind a symbol stands one of which there is no string of terminals.
func TestNoWord(t *testing.T) {
	// t has no lookahead, though its rule ends; what stands behind u in its own rule is one all the same.
	same(t, grammar("A B C", "s t u", "s", "s : t u", "s : A", "t : B", "u : u C"),
		"A > s : A . / $", "B > t : B . /", "s > $ : s . / $", "t u > s : t u . / $", "t u C > u : u C . / $ C")
	// What has no lookahead gives none to its own parts, not even the D that stands behind w.
	same(t, grammar("C D", "s t u w", "s", "s : t u", "t : w D", "w : C", "u : u"),
		"C > w : C . /", "w D > t : w D . /", "s > $ : s . / $", "t u > s : t u . / $ | u : u . / $")
	same(t, grammar("A B", "s t u v w", "s", "s : t u", "t : v w A", "v :", "w : B", "w :", "u : u"),
		"> v : . /", "v > w : . /", "v B > w : B . /", "v w A > t : v w A . /", "s > $ : s . / $", "t u > s : t u . / $ | u : u . / $")
	// It has no string of terminals, but there is a terminal with which one would begin.
	same(t, grammar("A B", "s t u", "s", "s : t u", "t : B", "u : A u"),
		"B > t : B . / A", "s > $ : s . / $", "t u > s : t u . / $", "t A u > u : A u . / $")
	// What stands in front of it has lookaheads of it alone, not of what is behind it.
	same(t, grammar("A B C", "s t u", "s", "s : t u A", "t : B", "u : C u"),
		"B > t : B . / C", "s > $ : s . / $", "t u A > s : t u A . / $", "t C u > u : C u . / A")
	// There is no string of terminals at all.
	same(t, grammar("A", "s", "s", "s : s s A"), "s > $ : s . / $", "s s A > s : s s A . / $ A")
	same(t, grammar("A", "s t", "s", "s : t s", "t : A", "s : t t s"),
		"A > t : A . / A", "s > $ : s . / $", "t s > s : t s . / $", "t t s > s : t s . / $ | s : t t s . / $")
	same(t, grammar("A", "s t", "s", "s : t s", "t : t", "t : A"), "t > t : t . / A", "A > t : A . / A", "s > $ : s . / $", "t s > s : t s . / $")
}

// P14.1: an item without a lookahead in the state that comes first to it, which gets one from another state.
func TestWaiting(t *testing.T) {
	same(t, grammar("A B C D", "s t u w x", "s", "s : x u", "s : D x A", "x : B t", "t : w D", "w : C", "u : u"),
		"B C > w : C . / D", "B t > x : B t . / A", "B w D > t : w D . / A", "D x A > s : D x A . / $",
		"x u > s : x u . / $ | u : u . / $", "s > $ : s . / $")
	// The same the other way around: the state that gives a lookahead comes first.
	same(t, grammar("A B C D", "s t u w x", "s", "s : x A", "s : D x u", "x : B t", "t : w D", "w : C", "u : u"),
		"B C > w : C . / D", "B t > x : B t . / A", "B w D > t : w D . / A", "x A > s : x A . / $",
		"D x u > s : D x u . / $ | u : u . / $", "s > $ : s . / $")
	// None of them gives one.
	same(t, grammar("A B C D", "s t u w x", "s", "s : x u", "s : D x u", "x : B t", "t : w D", "w : C", "u : u"),
		"B C > w : C . /", "B t > x : B t . /", "B w D > t : w D . /", "x u > s : x u . / $ | u : u . / $",
		"D x u > s : D x u . / $ | u : u . / $", "s > $ : s . / $")
	// In the same state another rule gives one.
	same(t, grammar("A B C D", "s t u w", "s", "s : t u", "s : t A", "t : w D", "w : C", "u : u"),
		"C > w : C . / D", "w D > t : w D . / A", "t u > s : t u . / $ | u : u . / $", "t A > s : t A . / $", "s > $ : s . / $")
}

// P14.1: lookaheads that come to one state from several others.
func TestFromSeveral(t *testing.T) {
	same(t, grammar("A B C D E", "s t", "s", "s : A t B", "s : C t D", "t : E"),
		"A E > t : E . / B D", "s > $ : s . / $", "A t B > s : A t B . / $", "C t D > s : C t D . / $")
	same(t, grammar("A B C D E", "s t u", "s", "s : A t B", "s : C t D", "s : t", "t : E u", "u : E"),
		"E E > u : E . / $ B D", "E u > t : E u . / $ B D", "t > s : t . / $", "s > $ : s . / $", "A t B > s : A t B . / $", "C t D > s : C t D . / $")
	// The kernels are the same, though the ways are not; one that is greater is another state.
	same(t, grammar("A B C D E", "s t u", "s", "s : A t B", "s : C t D", "s : D t E", "s : D u", "t : E", "u : E A"),
		"A E > t : E . / B D", "D E > t : E . / E", "D E A > u : E A . / $", "D u > s : D u . / $", "s > $ : s . / $",
		"A t B > s : A t B . / $", "C t D > s : C t D . / $", "D t E > s : D t E . / $")
	// A rule that is reduced before fewer terminals than come behind its left side somewhere.
	same(t, grammar("E S I", "s l r", "s", "s : l E r", "s : r", "l : S r", "l : I", "r : l"),
		"l > r : l . / $", "I > l : I . / $ E", "S l > r : l . / $ E", "S r > l : S r . / $ E", "l E r > s : l E r . / $", "r > s : r . / $", "s > $ : s . / $")
}

// P14.1: lookaheads that go around in a circle, in one state and through several.
func TestCircles(t *testing.T) {
	same(t, grammar("A B C D E F", "s t u", "s", "s : A t B", "t : C u", "u : D t F", "u : E"),
		"A C E > u : E . / B F", "A C u > t : C u . / B F", "A C D t F > u : D t F . / B F", "A t B > s : A t B . / $", "s > $ : s . / $")
	same(t, grammar("A B C", "s t u", "s", "s : t A", "t : u", "u : t", "u : B", "t : u C"),
		"B > u : B . / A C", "u > t : u . / A C", "t > u : t . / A C", "t A > s : t A . / $", "u C > t : u C . / A C", "s > $ : s . / $")
	same(t, grammar("A B", "s t u", "s", "s : A t", "t : A u", "u : A s", "s : B", "t : s B"),
		"B > s : B . / $ B", "A t > s : A t . / $ B", "A s B > t : s B . / $ B", "A A u > t : A u . / $ B", "A A A s > u : A s . / $ B", "s > $ : s . / $")
}

// P14.1: lookaheads that come late, when those that came before have gone on already.
func TestLate(t *testing.T) {
	same(t, grammar("A B D E", "s t u v x", "s", "s : x", "s : A x B", "x : D t", "t : u", "u : v", "v : E"),
		"D E > v : E . / $ B", "D v > u : v . / $ B", "D u > t : u . / $ B", "D t > x : D t . / $ B", "x > s : x . / $", "A x B > s : A x B . / $", "s > $ : s . / $")
	// The last of a circle of states gives to the first one what only it has.
	same(t, grammar("A B C D F", "s t u v", "s", "s : A t", "t : A u B", "u : A v C", "v : A t D", "t : F", "u : F", "v : F"),
		"A F > t : F . / $ D", "A t > s : A t . / $", "s > $ : s . / $",
		"A A F > u : F . / B", "A A u B > t : A u B . / $ D", "A A A F > v : F . / C", "A A A v C > u : A v C . / B", "A A A A t D > v : A t D . / C")
	// Each of the circle adds one to what it passes on.
	same(t, grammar("A B C D F", "s t u v", "s", "s : A t", "t : A u", "t : A u B", "u : A v", "u : A v C", "v : A t", "v : A t D", "t : F", "u : F", "v : F"),
		"A F > t : F . / $ B C D", "A t > s : A t . / $", "s > $ : s . / $",
		"A A F > u : F . / $ B C D", "A A u > t : A u . / $ B C D", "A A u B > t : A u B . / $ B C D",
		"A A A F > v : F . / $ B C D", "A A A v > u : A v . / $ B C D", "A A A v C > u : A v C . / $ B C D",
		"A A A A t > v : A t . / $ B C D", "A A A A t D > v : A t D . / $ B C D")
}

// P14.1: the end of input, alone, with terminals, and not.
func TestEndOfInput(t *testing.T) {
	same(t, grammar("A", "s", "s", "s : s s", "s : A"), "A > s : A . / $ A", "s > $ : s . / $", "s s > s : s s . / $ A")
	same(t, grammar("A B C", "s t", "s", "s : t A", "t : s B", "t : C"),
		"C > t : C . / A", "s > $ : s . / $", "t A > s : t A . / $ B", "s B > t : s B . / A")
	same(t, grammar("A B", "t s u", "u", "t : A", "s : t B", "u : s t"),
		"A > t : A . / $ B", "t B > s : t B . / A", "s t > u : s t . / $", "u > $ : u . / $")
}

// P14.1: useless symbols: what cannot be reached adds nothing, although it comes behind other symbols.
func TestUseless(t *testing.T) {
	same(t, sample.Valid(), "A > s : A . / $", "s > $ : s . / $", "t > s : t . / $ | t : t . / $")
	same(t, grammar("A B", "u s t", "s", "u : s B", "s : A", "t : u"), "A > s : A . / $", "s > $ : s . / $")
	same(t, grammar("A B C", "s t u", "s", "s : A t", "t : B", "u : t C", "u :"), "A B > t : B . / $", "A t > s : A t . / $", "s > $ : s . / $")
}

// P14.1: grammars that are not valid, by each condition of chapter 6, have its error and no lists.
func TestInvalid(t *testing.T) {
	for _, x := range sample.Invalid() {
		if l, e := look.Of(x.G); len(l) != 0 || e != x.E {
			t.Errorf("%s: %d lists with the error %d, want %d", short(x.G), len(l), e, x.E)
		}
	}
}

// P3: nil and empty lists are equivalent.
func TestNil(t *testing.T) {
	with := api.Gram{Terms: []string{}, Nons: []string{"s"}, Rules: []api.Rule{{Left: 1, Right: []int{}}}, Start: 1}
	without := api.Gram{Nons: []string{"s"}, Rules: []api.Rule{{Left: 1}}, Start: 1}
	for _, g := range []api.Gram{with, without} {
		same(t, g, "> s : . / $", "s > $ : s . / $")
	}
	for _, g := range []api.Gram{{}, {Terms: []string{}, Nons: []string{}, Rules: []api.Rule{}}} {
		if l, e := look.Of(g); len(l) != 0 || e != api.ErrArg {
			t.Errorf("%v: %v with the error %d", g, l, e)
		}
	}
}

// P4, P5: nobody modifies the argument, no two lists share anything, and the results stay the same.
func TestShared(t *testing.T) {
	plain := func() api.Gram {
		return grammar("A B C", "s t u", "s", "s : t A", "s : u B", "s : C t B", "s : C u A", "t :", "u :", "s : s s")
	}
	g := plain()
	before, _ := look.Of(g)
	l, _ := look.Of(g)
	for i := range l {
		for k := range l[i] {
			for j := range l[i][k].Terms {
				l[i][k].Terms[j] = -1
			}
			again, _ := look.Of(g)
			if text(again) != text(before) {
				t.Errorf("then %s, before %s", text(again), text(before))
			}
			l[i][k].Terms = nil
			if strings.Contains(text(l), "-1") {
				t.Errorf("state %d shares a list of terminals: %s", i, text(l))
			}
		}
	}
	if !gram.Same(g, plain()) {
		t.Errorf("the grammar is %v", g)
	}
	g.Rules = slices.Clone(g.Rules)
	slices.Reverse(g.Rules[1:3])
	if other, _ := look.Of(g); text(other) == text(before) {
		t.Errorf("other rules: %s", text(other))
	}
	if again, _ := look.Of(plain()); text(again) != text(before) {
		t.Errorf("then %s, before %s", text(again), text(before))
	}
}
