package live_test

import (
	"slices"
	"strings"
	"testing"

	"conch/api"
	"conch/gram"
	"conch/live"
	"conch/sample"
)

// Short names: almost every test makes grammars.
var grammar, sized = sample.Grammar, sample.Sized

// named returns the names of symbols, parted by blanks.
func named(g api.Gram, symbols []int) string {
	var list []string
	for _, s := range symbols {
		list = append(list, gram.Name(g, s))
	}
	return strings.Join(list, " ")
}

// expect holds the answers for g against names and a grammar, and against the model. A first of "" means that nothing is
// useless, a nil want that there is no trimmed grammar.
func expect(t *testing.T, g api.Gram, productive, reached, first string, want *api.Gram) {
	t.Helper()
	agree(t, g)
	if got := named(g, live.Productive(g)); got != productive {
		t.Errorf("Productive: %q, want %q", got, productive)
	}
	if got := named(g, live.Reached(g)); got != reached {
		t.Errorf("Reached: %q, want %q", got, reached)
	}
	e, s := live.Check(g)
	if first == "" && (e != api.OK || s != 0) || first != "" && (e != api.ErrDead || gram.Name(g, s) != first) {
		t.Errorf("Check: %d %d, want %q", e, s, first)
	}
	got, ok := live.Trim(g)
	if want == nil {
		want = &api.Gram{}
		if ok {
			t.Error("Trim is true")
		}
	} else if !ok {
		t.Error("Trim is false")
	}
	if !gram.Same(got, *want) {
		t.Errorf("Trim: %v, want %v", got, *want)
	}
}

// P9.1: grammars with useless symbols of every kind.
func TestUseless(t *testing.T) {
	none := grammar("", "s", "s", "s :")
	one := grammar("B", "s", "s", "s : B")
	two := grammar("A B", "s t", "s", "s : A t", "t : B")
	for _, x := range []struct {
		what                       string
		g                          api.Gram
		productive, reached, first string
		want                       *api.Gram
	}{
		{"an example for all calls", grammar("A B C", "s t u", "s", "s : A t", "s : B", "t : t A", "u : B"), "s u", "A B s t", "C", &one},
		{"a terminal that no rule uses, first", grammar("C A B", "s t", "s", "s : A t", "t : B"), "s t", "A B s t", "C", &two},
		{"a terminal that no rule uses, in the middle", grammar("A C B", "s t", "s", "s : A t", "t : B"), "s t", "A B s t", "C", &two},
		{"a terminal that no rule uses, last", grammar("A B C", "s t", "s", "s : A t", "t : B"), "s t", "A B s t", "C", &two},
		{"only terminals that no rule uses", grammar("A B", "s", "s", "s :"), "s", "s", "A", &none},
		{"unreachable, but productive", grammar("B", "s t", "s", "s : B", "t : B"), "s t", "B s", "t", &one},
		{"unreachable, and it leads to Start", grammar("B", "t s", "s", "t : s", "s : B"), "t s", "B s", "t", &one},
		{"unreachable, with a terminal of its own", grammar("A B", "s t", "s", "s : B", "t : A"), "s t", "B s", "A", &one},
		{"unreachable ones that lead to each other", grammar("B", "s t u", "s", "t : u", "u : t", "u :", "s : B"), "s t u", "B s", "t", &one},
		{"unreachable and not productive", grammar("B", "s t", "s", "s : B", "t : t"), "s", "B s", "t", &one},
		{"reachable, but not productive", grammar("B", "s t", "s", "s : B", "s : t", "t : t"), "s", "B s t", "t", &one},
		{"not productive by each other", grammar("B", "t u s", "s", "t : u", "u : t", "s : t B u", "s : B"), "s", "B t u s", "t", &one},
		{"not productive amid productive ones", grammar("B", "s t", "s", "s : s t s", "t : s t", "s : B"), "s", "B s t", "t", &one},
		{"not productive by its second symbol", grammar("A B", "s t u", "s", "s : t", "t : A u", "u : u", "s : B"), "s", "A B s t u", "t", &one},
		{"not productive, though all is reachable by itself", grammar("B", "s t", "s", "s : B", "s : t", "t : s t"), "s", "B s t", "t", &one},
		{"a terminal that only a dead rule uses", grammar("A B", "s t", "s", "s : A t", "s : B", "t : t"), "s", "A B s t", "t", &one},
		{"a nonterminal that only a dead rule uses", grammar("B", "s u t", "s", "s : u t", "s : B", "t : t", "u : B"), "s u", "B s u t", "t", &one},
		{"a chain that only a dead rule uses", grammar("A B C", "s u v t", "s", "s : u t", "s : B", "t : t", "u : A v", "v : C", "v : s"), "s u v", "A B C s u v t", "t", &one},
		{"a rule of a live symbol is dead", grammar("A B C", "s t u", "s", "s : A t", "t : C u", "t : B", "u : u A"), "s t", "A B C s t u", "u", &two},
		{"a dead terminal ahead of a dead nonterminal", grammar("C B", "t s", "s", "s : B", "s : t", "t : t"), "s", "B t s", "C", &one},
		{"an unreachable nonterminal ahead of a dead one", grammar("B", "u t s", "s", "s : B", "s : t", "t : t", "u :"), "u s", "B t s", "u", &one},
		{"a dead nonterminal ahead of an unreachable one", grammar("B", "t u s", "s", "s : B", "s : t", "t : t", "u :"), "u s", "B t s", "t", &one},
		{"Start is not productive", grammar("A", "s", "s", "s : A s"), "", "A s", "s", nil},
		{"Start is not productive, but others are", grammar("A", "s t", "s", "s : t s", "t : A"), "t", "A s t", "s", nil},
		{"Start is not productive by another one", grammar("A", "s t", "s", "s : A t", "t : A t"), "", "A s t", "s", nil},
		{"Start is not productive, with useless ones ahead of it", grammar("A B", "t s", "s", "t : B", "s : A s"), "t", "A s", "B", nil},
		{"nothing is productive", grammar("", "s t", "t", "s : t", "t : s"), "", "s t", "s", nil},
	} {
		t.Run(x.what, func(t *testing.T) { expect(t, x.g, x.productive, x.reached, x.first, x.want) })
	}
}

// P9.1: grammars that have nothing useless stay as they are.
func TestNothingUseless(t *testing.T) {
	for _, g := range []api.Gram{
		grammar("", "s", "s", "s :"), grammar("", "s", "s", "s : s", "s :"), grammar("A", "s", "s", "s : A"), grammar("A", "s", "s", "s :", "s : s A"),
		grammar("", "s t", "t", "t : s", "s :"), grammar("A B", "s t", "t", "s : A", "t : s B", "s : t s"), grammar("A B", "s t u", "u", "u : s t", "s : t", "t : B u A", "t :"),
		grammar("'+' n '('", "e f", "f", "e : e '+' n", "f : '(' e", "e : n"),
	} {
		all := slices.Concat(g.Terms, g.Nons)
		expect(t, g, strings.Join(g.Nons, " "), strings.Join(all, " "), "", &g)
	}
}

// P9.1: the symbols and rules that remain keep their order, also if the grammar is not ordered.
func TestOrder(t *testing.T) {
	g := grammar("E D C B A", "z y x w v", "x", "v : A", "x : C v A", "y : x", "x : w B", "w : w", "x : v z", "z : E x", "v : x", "z : y w")
	want := grammar("E C A", "z x v", "x", "v : A", "x : C v A", "x : v z", "z : E x", "v : x")
	expect(t, g, "z y x v", "E C B A z y x w v", "D", &want)
	for _, s := range []string{"C A B", "B A C", "A C B"} {
		g, want := grammar(s+" u", "t s", "s", "s : B t", "t : C", "s : A"), grammar(s, "t s", "s", "s : B t", "t : C", "s : A")
		expect(t, g, "t s", s+" t s", "u", &want)
	}
}

// chain returns a grammar in which each nonterminal leads to the next one, or to the one ahead of it.
func chain(n int, up bool) api.Gram {
	g := sized(n, n)
	for i := range n {
		r, next := api.Rule{Left: n + 1 + i, Right: []int{1 + i, n + 2 + i}}, i+1
		if !up {
			r.Right[1], next = n+i, i-1
		}
		if next < 0 || next == n {
			r.Right = r.Right[:1]
		}
		g.Rules = append(g.Rules, r)
	}
	if !up {
		g.Start = 2 * n
	}
	return g
}

// P9.1, P9.2: chains of the greatest length, in both directions, whole and cut off in the middle.
func TestLargest(t *testing.T) {
	n := min(api.MaxTerms, api.MaxNons)
	for _, up := range []bool{true, false} {
		g := chain(n, up)
		expect(t, g, strings.Join(g.Nons, " "), strings.Join(slices.Concat(g.Terms, g.Nons), " "), "", &g)

		dead := chain(n, up)
		mid := &dead.Rules[n/2]
		mid.Right = append(slices.Clone(mid.Right), mid.Left)
		if a := agree(t, dead); a.ok || len(a.productive) != n-1-n/2 && len(a.productive) != n/2 || len(a.reached) != 2*n {
			t.Errorf("dead in the middle: %v", a)
		}

		cut := chain(n, up)
		cut.Rules[n/2].Right = cut.Rules[n/2].Right[:1]
		a := agree(t, cut)
		if !a.ok || len(a.productive) != n || len(a.reached) != 2*len(a.trimmed.Nons) || len(a.trimmed.Nons) != len(a.trimmed.Terms) || len(a.trimmed.Rules) != len(a.trimmed.Nons) {
			t.Errorf("cut in the middle: %v", a)
		}
	}
}

// P9.1: a grammar of the greatest size in every respect, with a dead rule ahead of each one that is not.
func TestMost(t *testing.T) {
	g := sized(api.MaxTerms, api.MaxNons)
	dead := gram.Top(g)
	for i := range api.MaxRules - 1 {
		r := api.Rule{Left: g.Start + i/2%(api.MaxNons-1)}
		for k := range api.MaxRight {
			r.Right = append(r.Right, 1+(i+k*k)%api.MaxTerms)
		}
		if i%2 == 0 {
			r.Right[i%api.MaxRight] = dead
		}
		g.Rules = append(g.Rules, r)
	}
	g.Rules = append(g.Rules, api.Rule{Left: dead, Right: slices.Repeat([]int{dead}, api.MaxRight)})
	a := agree(t, g)
	if a.e != api.ErrDead || len(a.productive) != api.MaxNons-1 || !a.ok || len(a.trimmed.Nons) != 1 || len(a.trimmed.Rules) != 2 {
		t.Errorf("Check is %d %d, Trim has %d nonterminals and %d rules", a.e, a.s, len(a.trimmed.Nons), len(a.trimmed.Rules))
	}
}

// nothing demands the answers for a grammar that is not valid.
func nothing(t *testing.T, g api.Gram, want api.Errno) {
	t.Helper()
	if got := answer(g); !got.same(answers{e: want}) || got.trimmed.Start != 0 {
		t.Errorf("%.200q %.200q %.200v: %.200v, want %d", g.Terms, g.Nons, g.Rules, got, want)
	}
}

// P9.1: grammars that are not valid, by each condition of chapter 6. Useless symbols do not matter then.
func TestInvalid(t *testing.T) {
	for _, x := range sample.Invalid() {
		nothing(t, x.G, x.E)
	}
}

// P9.1: nil and empty lists are alike.
func TestNilAndEmpty(t *testing.T) {
	for _, terms := range [][]string{nil, {}} {
		for _, right := range [][]int{nil, {}} {
			g := api.Gram{Terms: terms, Nons: []string{"s", "t"}, Rules: []api.Rule{{Left: 1, Right: right}, {Left: 2, Right: right}}, Start: 2}
			want := grammar("", "t", "t", "t :")
			expect(t, g, "s t", "t", "s", &want)
		}
		nothing(t, api.Gram{Terms: terms, Nons: []string{}, Rules: []api.Rule{}}, api.ErrArg)
	}
}

// Answers share no list with the argument, nor two lists of an answer with each other.
func TestAnswersAreNew(t *testing.T) {
	for _, g := range []api.Gram{grammar("A B", "s t", "s", "s : A t", "t : B", "s : B B"), grammar("C A B", "s u t", "s", "s : A t", "t : B", "s : u", "u : u")} {
		g = twin(g)
		before, want := look(g), answer(g)
		got := answer(g)
		for _, list := range [][]int{got.productive, got.reached} {
			for i := range list {
				list[i] = -1
			}
		}
		for i := range got.trimmed.Rules {
			right := got.trimmed.Rules[i].Right
			for k := range right {
				right[k] = -1
			}
			got.trimmed.Rules[i].Right = append(right, -2)
			got.trimmed.Rules[i].Left = -3
		}
		got.trimmed.Terms[0], got.trimmed.Nons[0] = "?", "?"
		if look(g) != before || !answer(g).same(want) {
			t.Errorf("the argument became %s, before %s", look(g), before)
		}
		trimmed, _ := live.Trim(g)
		text := look(twin(trimmed))
		for i := range g.Rules {
			clear(g.Rules[i].Right)
		}
		clear(g.Rules)
		clear(g.Terms)
		clear(g.Nons)
		if look(twin(trimmed)) != text {
			t.Errorf("the answer became %s, before %s", look(twin(trimmed)), text)
		}
	}
}

// The example of the chapter.
func TestExample(t *testing.T) {
	want := grammar("B", "s", "s", "s : B")
	expect(t, grammar("A B", "s t", "s", "s : A t", "s : B", "t : t A"), "s", "A B s t", "t", &want)
}
