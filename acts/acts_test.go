package acts_test

import (
	"slices"
	"strings"
	"testing"

	"conch/acts"
	"conch/api"
	"conch/auto"
	"conch/gram"
	"conch/sample"
)

// A short name: almost every test makes grammars.
var grammar = sample.Grammar

// symbols returns the symbols with these names.
func symbols(g api.Gram, names string) []int {
	var list []int
	for _, name := range strings.Fields(names) {
		list = append(list, gram.Find(g, name))
	}
	return list
}

// rule renders a rule, such as "s : A t".
func rule(g api.Gram, i int) string {
	r, _ := gram.Rule(g, i)
	words := []string{gram.Name(g, r.Left), ":"}
	for _, s := range r.Right {
		words = append(words, gram.Name(g, s))
	}
	return strings.Join(words, " ")
}

// shown renders an action of a state before a symbol: "shift" leads where the automaton does.
func shown(g api.Gram, states []api.State, i, s int, x api.Act) string {
	switch {
	case x.K == api.ActShift && x.N != -1 && x.N == auto.Goto(states, i, s):
		return "shift"
	case x.K == api.ActAccept && x.N == 0:
		return "accept"
	case x.K == api.ActReduce && x.N >= 0 && x.N < len(g.Rules):
		return rule(g, x.N)
	}
	return "no action"
}

// row renders what a table says of a state, such as "$ / accept, A / shift, B / s : A t, s, t": actions before the end of input and
// before terminals, and then the nonterminals that lead somewhere.
func row(g api.Gram, states []api.State, x api.Table, i int) string {
	var list []string
	for s := range len(g.Terms) + 1 {
		if a := x.Acts[i][s]; a != (api.Act{}) {
			list = append(list, gram.Name(g, s)+" / "+shown(g, states, i, s, a))
		}
	}
	for k, to := range x.Goto[i] {
		s := len(g.Terms) + 1 + k
		if to != auto.Goto(states, i, s) {
			list = append(list, "wrong goto")
		} else if to != -1 {
			list = append(list, gram.Name(g, s))
		}
	}
	return strings.Join(list, ", ")
}

// same demands the table of a grammar: "A s > $ / s : A s" tells what is done in the state to which A s leads from state 0. In the
// states that are not named nothing is done.
func same(t *testing.T, g api.Gram, want ...string) {
	t.Helper()
	states, _ := auto.Build(g)
	x, e := acts.Of(g)
	if e != api.OK || len(x.Acts) != len(states) || len(x.Goto) != len(states) {
		t.Fatalf("%s: %d and %d rows with the error %d for %d states", short(g), len(x.Acts), len(x.Goto), e, len(states))
	}
	texts := make([]string, len(states))
	for _, w := range want {
		way, text, _ := strings.Cut(w, ">")
		i := auto.Walk(states, 0, symbols(g, way))
		if i == -1 || texts[i] != "" {
			t.Fatalf("%s: %q leads to state %d", short(g), way, i)
		}
		texts[i] = strings.TrimSpace(text)
	}
	for i := range states {
		if text := row(g, states, x, i); text != texts[i] {
			t.Errorf("%s: state %d has %q, want %q", short(g), i, text, texts[i])
		}
	}
	agree(t, g)
}

// clash demands the conflicts of a grammar in this order: "A s > B: shift, s : A s" tells of the state to which A s leads from
// state 0, before B.
func clash(t *testing.T, g api.Gram, want ...string) {
	t.Helper()
	states, _ := auto.Build(g)
	l, e := acts.Clashes(g)
	if e != api.OK || len(l) != len(want) {
		t.Fatalf("%s: %v with the error %d, want %q", short(g), l, e, want)
	}
	for k, x := range l {
		way, text, _ := strings.Cut(want[k], ">")
		i := auto.Walk(states, 0, symbols(g, way))
		got := gram.Name(g, x.Term) + ": " + shown(g, states, x.State, x.Term, x.A) + ", " + shown(g, states, x.State, x.Term, x.B)
		if x.State != i || got != strings.TrimSpace(text) {
			t.Errorf("%s: conflict %d is %q in state %d, want %q in state %d", short(g), k, got, x.State, want[k], i)
		}
	}
	agree(t, g)
}

// literal demands a table without help of other packages.
func literal(t *testing.T, g api.Gram, want api.Table) {
	t.Helper()
	x, e := acts.Of(g)
	if e != api.OK || text(x) != text(want) {
		t.Errorf("%s: %s with the error %d, want %s", short(g), text(x), e, text(want))
	}
	agree(t, g)
}

// Short names for the rows of literal tables.
var shift, reduce, accept, none = sample.Shift, sample.Reduce, sample.Accept, sample.None

func acting(l ...api.Act) []api.Act { return l }

// P15.1: the grammar of the chapters before, with all numbers of its table.
func TestTable(t *testing.T) {
	literal(t, grammar("A B", "s", "s", "s : A s", "s : B"), api.Table{
		Rules: []api.Rule{{Left: 3, Right: []int{1, 3}}, {Left: 3, Right: []int{2}}, {Left: 0, Right: []int{3}}},
		Terms: 2, Nons: 1,
		Acts: [][]api.Act{
			acting(none(), shift(1), shift(2)),
			acting(none(), shift(1), shift(2)),
			acting(reduce(1), none(), none()),
			acting(accept(), none(), none()),
			acting(reduce(0), none(), none()),
		},
		Goto: [][]int{{3}, {4}, {-1}, {-1}, {-1}},
	})
	// An empty rule, and nonterminals in another order than their rules.
	literal(t, grammar("A", "t s u", "s", "s : u t A", "u :", "t : A"), api.Table{
		Rules: []api.Rule{{Left: 3, Right: []int{4, 2, 1}}, {Left: 4}, {Left: 2, Right: []int{1}}, {Left: 0, Right: []int{3}}},
		Terms: 1, Nons: 3,
		Acts: [][]api.Act{
			acting(none(), reduce(1)),
			acting(accept(), none()),
			acting(none(), shift(3)),
			acting(none(), reduce(2)),
			acting(none(), shift(5)),
			acting(reduce(0), none()),
		},
		Goto: [][]int{{-1, 1, 2}, {-1, -1, -1}, {4, -1, -1}, {-1, -1, -1}, {-1, -1, -1}, {-1, -1, -1}},
	})
}

// P15.1: the example of the chapter, with all numbers of its conflict.
func TestExample(t *testing.T) {
	g := grammar("A B", "s", "s", "s : s A s", "s : B")
	l, e := acts.Clashes(g)
	if want := []api.Clash{{State: 4, Term: 1, A: shift(3), B: reduce(0)}}; e != api.OK || !slices.Equal(l, want) {
		t.Errorf("the conflicts are %v with the error %d, want %v", l, e, want)
	}
	clash(t, g, "s A s > A: shift, s : s A s")
}

// P15.1: grammars with one rule, or one and an empty one.
func TestOneRule(t *testing.T) {
	same(t, grammar("", "s", "s", "s :"), "> $ / s :, s", "s > $ / accept")
	same(t, grammar("A", "s", "s", "s : A"), "> A / shift, s", "A > $ / s : A", "s > $ / accept")
	same(t, grammar("A", "s", "s", "s : A A A"), "> A / shift, s", "A > A / shift", "A A > A / shift", "A A A > $ / s : A A A", "s > $ / accept")
	same(t, grammar("A", "s", "s", "s : A s"), "> A / shift, s", "A > A / shift, s", "A s > $ / s : A s", "s > $ / accept")
	same(t, grammar("A", "s", "s", "s : A s", "s :"),
		"> $ / s :, A / shift, s", "A > $ / s :, A / shift, s", "A s > $ / s : A s", "s > $ / accept")
	same(t, grammar("A B", "s", "s", "s : A s B", "s :"),
		"> $ / s :, A / shift, s", "A > A / shift, B / s :, s", "A s > B / shift", "A s B > $ / s : A s B, B / s : A s B", "s > $ / accept")
	clash(t, grammar("", "s", "s", "s : s"), "s > $: accept, s : s")
}

// P15.1: grammars without terminals have one action in a row.
func TestNoTerminals(t *testing.T) {
	same(t, grammar("", "s t u", "s", "s : t u", "t : u u", "u :"),
		"> $ / u :, s, t, u", "u > $ / u :, u", "t > $ / u :, u", "s > $ / accept", "u u > $ / t : u u", "t u > $ / s : t u")
	same(t, grammar("", "s t", "t", "s :", "t : s"), "> $ / s :, s, t", "s > $ / t : s", "t > $ / accept")
	same(t, grammar("", "s", "s", "s : s s"), "> s", "s > $ / accept, s", "s s > $ / s : s s, s")
	clash(t, grammar("", "s", "s", "s : s s", "s :"), "s > $: accept, s :", "s s > $: s : s s, s :")
	clash(t, grammar("", "s t u", "s", "s : t", "s : u", "u :", "t :"), "> $: u :, t :")
}

// P15.1: the augmented rule in a state in which terminals are shifted or other rules are reduced, but before others than the end.
func TestAugmentedAlone(t *testing.T) {
	same(t, grammar("A B", "s", "s", "s : s A", "s : B"),
		"> B / shift, s", "B > $ / s : B, A / s : B", "s > $ / accept, A / shift", "s A > $ / s : s A, A / s : s A")
	same(t, grammar("A B", "s t", "s", "s : t A", "t : s", "s : B"),
		"> B / shift, s, t", "B > $ / s : B, A / s : B", "s > $ / accept, A / t : s", "t > A / shift", "t A > $ / s : t A, A / s : t A")
	same(t, grammar("A B C D", "s t u", "s", "s : t A", "t : s", "s : s B", "u :", "s : s u D", "s : C"),
		"> C / shift, s, t", "C > $ / s : C, A / s : C, B / s : C, D / s : C",
		"s > $ / accept, A / t : s, B / shift, D / u :, u", "t > A / shift",
		"s B > $ / s : s B, A / s : s B, B / s : s B, D / s : s B",
		"t A > $ / s : t A, A / s : t A, B / s : t A, D / s : t A",
		"s u > D / shift", "s u D > $ / s : s u D, A / s : s u D, B / s : s u D, D / s : s u D")
}

// P15.1: empty rules, at the beginning, in the middle and at the end of others.
func TestEmptyRules(t *testing.T) {
	same(t, grammar("A", "s t", "s", "s : t A", "t :"), "> A / t :, s, t", "s > $ / accept", "t > A / shift", "t A > $ / s : t A")
	same(t, grammar("A B", "s t", "s", "s : A t B", "t :"), "> A / shift, s", "A > B / t :, t", "A t > B / shift", "s > $ / accept", "A t B > $ / s : A t B")
	same(t, grammar("A", "s t", "s", "s : A t", "t :"), "> A / shift, s", "A > $ / t :, t", "A t > $ / s : A t", "s > $ / accept")
	same(t, grammar("A B", "s t", "s", "s : t t A", "t :", "s : B"),
		"> A / t :, B / shift, s, t", "B > $ / s : B", "t > A / t :, t", "t t > A / shift", "t t A > $ / s : t t A", "s > $ / accept")
	clash(t, grammar("A", "s t", "s", "s : t A", "t :", "s : A"), "> A: shift, t :")
	clash(t, grammar("A", "s t u", "s", "s : t A", "s : u A", "u :", "t :"), "> A: u :, t :")
	clash(t, grammar("A", "s t", "s", "s : A t", "t :", "s : A"), "A > $: t :, s : A")
	clash(t, grammar("A", "s t", "s", "s : A", "s : A t", "t :"), "A > $: s : A, t :")
	clash(t, grammar("A", "s", "s", "s : s s A", "s :"), "s s > A: shift, s :")
}

// P15.1: useless symbols have their numbers and their columns. A state can be without an action.
func TestUseless(t *testing.T) {
	same(t, grammar("A B C", "s t u", "s", "s : A t", "t : B", "u : t C", "u :"),
		"> A / shift, s", "A > B / shift, t", "A B > $ / t : B", "A t > $ / s : A t", "s > $ / accept")
	same(t, grammar("A B", "u s t", "s", "u : s B", "s : A", "t : u"), "> A / shift, s", "A > $ / s : A", "s > $ / accept")
	same(t, grammar("A B C", "s t u", "s", "s : t u", "s : A", "t : B", "u : u C"),
		"> A / shift, B / shift, s, t", "A > $ / s : A", "t > u", "s > $ / accept",
		"t u > $ / s : t u, C / shift", "t u C > $ / u : u C, C / u : u C")
	same(t, grammar("A", "s t", "s", "s : t s", "t : A"), "> A / shift, s, t", "A > A / t : A", "t > A / shift, s, t", "t s > $ / s : t s", "s > $ / accept")
	// What can't be reached has no conflict, and what has no word can have one.
	same(t, grammar("A B", "s t", "s", "s : A", "t : t t", "t : B"), "> A / shift, s", "A > $ / s : A", "s > $ / accept")
	clash(t, sample.Valid(), "t > $: s : t, t : t")
}

// P15.1: one conflict of each kind: a shift, the augmented rule and another rule with a rule.
func TestTwoActions(t *testing.T) {
	clash(t, grammar("I E X", "s", "s", "s : I s", "s : I s E s", "s : X"), "I s > E: shift, s : I s")
	clash(t, grammar("A B", "s t", "s", "s : t B", "s : A B A", "t : A"), "A > B: shift, t : A")
	clash(t, grammar("A", "s t u", "s", "s : t", "s : u", "t : A", "u : A"), "A > $: t : A, u : A")
	clash(t, grammar("A B", "s t u", "s", "s : t B", "s : u B", "t : A", "u : A"), "A > B: t : A, u : A")
	clash(t, grammar("A", "s t", "s", "s : t", "s : A", "t : s"), "s > $: accept, t : s")
	clash(t, grammar("A", "s", "s", "s : A", "s : s"), "s > $: accept, s : s")
}

// P15.1: three and more actions before one terminal: each one but the first one is a conflict with the first one.
func TestMoreActions(t *testing.T) {
	clash(t, grammar("A B", "s t u v", "s", "s : t B", "s : u B", "s : v B", "s : A B", "v : A", "t : A", "u : A"),
		"A > B: shift, v : A", "A > B: shift, t : A", "A > B: shift, u : A")
	clash(t, grammar("A", "s t u v", "s", "v : A", "u : A", "t : A", "s : t", "s : u", "s : v"),
		"A > $: v : A, u : A", "A > $: v : A, t : A")
	clash(t, grammar("A", "s t u", "s", "u : s", "s : u", "t : s", "s : t", "s : A", "s : s"),
		"s > $: accept, u : s", "s > $: accept, t : s", "s > $: accept, s : s")
	clash(t, grammar("A", "s t u v w", "s", "w : A", "v : A", "s : A", "u : A", "t : A", "s : w", "s : v", "s : u", "s : t"),
		"A > $: w : A, v : A", "A > $: w : A, s : A", "A > $: w : A, u : A", "A > $: w : A, t : A")
}

// P15.1: conflicts before the end of input and before terminals, in the order of the terminals.
func TestOrderOfTerminals(t *testing.T) {
	clash(t, grammar("A B C", "s t u", "s", "s : t", "s : u", "s : t C", "s : u B", "s : t B", "s : u C", "t : A", "u : A"),
		"A > $: t : A, u : A", "A > B: t : A, u : A", "A > C: t : A, u : A")
	clash(t, grammar("C B A", "s t u", "s", "s : t", "s : u", "s : t C", "s : u B", "s : t B", "s : u C", "s : A C", "t : A", "u : A"),
		"A > $: t : A, u : A", "A > C: shift, t : A", "A > C: shift, u : A", "A > B: t : A, u : A")
	// A terminal before which only one rule is reduced stands between them.
	clash(t, grammar("A B C D", "s t u", "s", "s : t B", "s : u B", "s : u C", "s : t D", "s : u D", "t : A", "u : A"),
		"A > B: t : A, u : A", "A > D: t : A, u : A")
}

// P15.1: conflicts in several states, in the order of the states, and in each of them in that of the terminals.
func TestOrderOfStates(t *testing.T) {
	clash(t, grammar("A B C", "s", "s", "s : s A s", "s : s B s", "s : C"),
		"s A s > A: shift, s : s A s", "s A s > B: shift, s : s A s", "s B s > A: shift, s : s B s", "s B s > B: shift, s : s B s")
	clash(t, grammar("A B", "s t u", "s", "s : A s", "s : B", "s : t", "t : A t", "t : B", "u : s"),
		"B > $: s : B, t : B", "A t > $: s : t, t : A t")
	clash(t, grammar("A B", "s t u", "s", "t : A", "u : A", "s : t", "s : u", "s : B t B", "s : B u B", "s : s"),
		"A > $: t : A, u : A", "A > B: t : A, u : A", "s > $: accept, s : s")
}

// P15.1: lookaheads that come together where states of LR(1) are merged; and a grammar for which FOLLOW sets are too much.
func TestMerged(t *testing.T) {
	clash(t, grammar("A B C D E", "s t u", "s", "s : A t D", "s : B t C", "s : A u C", "s : B u D", "t : E", "u : E"),
		"A E > C: t : E, u : E", "A E > D: t : E, u : E")
	same(t, grammar("A B C D E", "s t u", "s", "s : A t D", "s : B t D", "s : A u C", "s : B u C", "t : E", "u : E"),
		"> A / shift, B / shift, s", "A > E / shift, t, u", "B > E / shift, t, u", "A E > C / u : E, D / t : E",
		"A t > D / shift", "A u > C / shift", "B t > D / shift", "B u > C / shift", "s > $ / accept",
		"A t D > $ / s : A t D", "A u C > $ / s : A u C", "B t D > $ / s : B t D", "B u C > $ / s : B u C")
	same(t, grammar("E S I", "s l r", "s", "s : l E r", "s : r", "l : S r", "l : I", "r : l"),
		"> S / shift, I / shift, s, l, r", "S > S / shift, I / shift, l, r", "I > $ / l : I, E / l : I", "s > $ / accept",
		"l > $ / r : l, E / shift", "r > $ / s : r", "S l > $ / r : l, E / r : l", "S r > $ / l : S r, E / l : S r",
		"l E > S / shift, I / shift, l, r", "l E r > $ / s : l E r")
}

// P15.1: grammars that are not valid, by each condition of chapter 6, have its error, and neither conflicts nor a table.
func TestInvalid(t *testing.T) {
	for _, x := range sample.Invalid() {
		if l, e := acts.Clashes(x.G); len(l) != 0 || e != x.E {
			t.Errorf("%s: %d conflicts with the error %d, want %d", short(x.G), len(l), e, x.E)
		}
		if y, e := acts.Of(x.G); !empty(y) || e != x.E {
			t.Errorf("%s: %s with the error %d, want %d", short(x.G), text(y), e, x.E)
		}
	}
}

// P15.1, P2: a grammar with a conflict has no table at all.
func TestNoTable(t *testing.T) {
	for _, g := range []api.Gram{
		sample.Valid(),
		grammar("A B", "s", "s", "s : s A s", "s : B"),
		grammar("", "s", "s", "s : s"),
		grammar("A", "s t", "s", "s : t A", "t :", "s : A"),
	} {
		if x, e := acts.Of(g); !empty(x) || e != api.ErrClash {
			t.Errorf("%s: %s with the error %d", short(g), text(x), e)
		}
	}
}

// P3: nil and empty lists are equivalent.
func TestNil(t *testing.T) {
	with := api.Gram{Terms: []string{}, Nons: []string{"s"}, Rules: []api.Rule{{Left: 1, Right: []int{}}}, Start: 1}
	without := api.Gram{Nons: []string{"s"}, Rules: []api.Rule{{Left: 1}}, Start: 1}
	for _, g := range []api.Gram{with, without} {
		literal(t, g, api.Table{
			Rules: []api.Rule{{Left: 1}, {Right: []int{1}}}, Nons: 1,
			Acts: [][]api.Act{acting(reduce(0)), acting(accept())}, Goto: [][]int{{1}, {-1}},
		})
	}
	for _, g := range []api.Gram{{}, {Terms: []string{}, Nons: []string{}, Rules: []api.Rule{}}} {
		l, e := acts.Clashes(g)
		x, f := acts.Of(g)
		if len(l) != 0 || e != api.ErrArg || !empty(x) || f != api.ErrArg {
			t.Errorf("%v: %v with the error %d, and %s with the error %d", g, l, e, text(x), f)
		}
	}
}

// spoil overwrites all that a table shares with others, if it shares anything.
func spoil(x api.Table) {
	for i := range x.Rules {
		for k := range x.Rules[i].Right {
			x.Rules[i].Right[k] = -9
		}
		x.Rules[i].Left = -9
	}
	for i := range x.Acts {
		for k := range x.Acts[i] {
			x.Acts[i][k] = api.Act{K: -9, N: -9}
		}
		for k := range x.Goto[i] {
			x.Goto[i][k] = -9
		}
	}
}

// P4, P5: nobody modifies the argument, results share nothing with it, and they stay the same.
func TestShared(t *testing.T) {
	plain := func() api.Gram {
		return grammar("A B C", "s t u", "s", "s : t A", "s : u B", "s : C t A", "t :", "u : C")
	}
	clashing := func() api.Gram { return grammar("A B", "s t", "s", "s : s A s", "s : B", "s : t", "t : B") }
	g, h := plain(), clashing()
	before, e := acts.Of(g)
	if e != api.OK {
		t.Fatalf("the error %d", e)
	}
	saved := text(before)
	clashes, _ := acts.Clashes(h)
	x, _ := acts.Of(g)
	spoil(x)
	l, _ := acts.Clashes(h)
	clear(l)
	if text(before) != saved || !gram.Same(g, plain()) || !gram.Same(h, clashing()) {
		t.Errorf("after an overwriting the table is %s, the grammars %v and %v", text(before), g, h)
	}
	again, _ := acts.Of(g)
	if l, _ := acts.Clashes(h); text(again) != saved || len(l) == 0 || !slices.Equal(l, clashes) {
		t.Errorf("then %s and %v, before %s and %v", text(again), l, saved, clashes)
	}
	g.Rules = slices.Clone(g.Rules)
	slices.Reverse(g.Rules)
	if other, _ := acts.Of(g); text(other) == saved {
		t.Errorf("other rules: %s", text(other))
	}
	if again, _ := acts.Of(plain()); text(again) != saved {
		t.Errorf("then %s, before %s", text(again), saved)
	}
}

// P4: no two lists of a table share anything.
func TestRowsShareNothing(t *testing.T) {
	g := grammar("A B C", "s t u", "s", "s : t A", "s : u B", "s : C t A", "t :", "u : C")
	x, e := acts.Of(g)
	if e != api.OK {
		t.Fatalf("the error %d", e)
	}
	for i := range x.Acts {
		x.Acts[i][0], x.Goto[i][0] = api.Act{N: i}, 100+i
		x.Acts[i] = append(x.Acts[i], api.Act{K: -1})
		x.Goto[i] = append(x.Goto[i], -7)
	}
	for i := range x.Rules {
		x.Rules[i].Right = append(x.Rules[i].Right, 1000+i)
	}
	for i := range x.Acts {
		if x.Acts[i][0].N != i || x.Goto[i][0] != 100+i || x.Acts[i][1].K == -1 || x.Goto[i][1] == -7 {
			t.Errorf("state %d has %v and %v", i, x.Acts[i], x.Goto[i])
		}
	}
	for i, r := range g.Rules {
		if right := x.Rules[i].Right; right[len(right)-1] != 1000+i || !slices.Equal(right[:len(right)-1], r.Right) {
			t.Errorf("rule %d is %v", i, x.Rules[i])
		}
	}
}
