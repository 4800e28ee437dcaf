package first_test

import (
	"math"
	"slices"
	"strings"
	"testing"

	"conch/api"
	"conch/first"
	"conch/gram"
	"conch/sample"
)

// Short names: almost every test makes grammars.
var grammar, sized = sample.Grammar, sample.Sized

// line renders the sets of a nonterminal: "? A B / $" is one that can be empty, begins with A or B, and is followed by $.
func line(g api.Gram, empty bool, firsts, follows []int) string {
	var list []string
	if empty {
		list = append(list, "?")
	}
	for _, x := range firsts {
		list = append(list, gram.Name(g, x))
	}
	list = append(list, "/")
	for _, x := range follows {
		list = append(list, gram.Name(g, x))
	}
	return strings.Join(list, " ")
}

// expect demands sets of the nonterminals of g, and that they agree with the model.
func expect(t *testing.T, g api.Gram, want ...string) {
	t.Helper()
	if len(want) != len(g.Nons) {
		t.Fatalf("%d lines for %d nonterminals", len(want), len(g.Nons))
	}
	s := first.Of(g)
	for i, x := range want {
		n := len(g.Terms) + 1 + i
		if got := line(g, s.Empty(n), s.First(n), s.Follow(n)); got != x {
			t.Errorf("%s is %q, want %q", g.Nons[i], got, x)
		}
	}
	agree(t, g)
}

// example is a grammar and the sets of its nonterminals.
type example struct {
	what string
	g    api.Gram
	want []string
}

// each demands the sets of the examples.
func each(t *testing.T, list []example) {
	for _, x := range list {
		t.Run(x.what, func(t *testing.T) { expect(t, x.g, x.want...) })
	}
}

// P11.1: nonterminals that can be empty, by themselves and through others, and ones that can't.
func TestEmpty(t *testing.T) {
	each(t, []example{
		{"by itself", grammar("", "s", "s", "s :"), []string{"? / $"}},
		{"by its first rule", grammar("A", "s", "s", "s :", "s : A"), []string{"? A / $"}},
		{"by its last rule", grammar("A", "s", "s", "s : A", "s : A A", "s :"), []string{"? A / $"}},
		{"not by a terminal", grammar("A", "s", "s", "s : A"), []string{"A / $"}},
		{"through another one", grammar("", "s t", "s", "s : t", "t :"), []string{"? / $", "? / $"}},
		{"through one with a smaller number", grammar("", "t s", "s", "t :", "s : t"), []string{"? / $", "? / $"}},
		{"through two", grammar("A", "s t u", "s", "s : t u", "t :", "u : A", "u :"), []string{"? A / $", "? / $ A", "? A / $"}},
		{"through the same one again", grammar("", "s t", "s", "s : t t t", "t :"), []string{"? / $", "? / $"}},
		{"through others that are empty through others", grammar("", "s t u v", "s", "s : t u", "t : u v", "u : v v", "v :"), []string{"? / $", "? / $", "? / $", "? / $"}},
		{"not through a terminal between", grammar("A", "s t", "s", "s : t A t", "t :"), []string{"A / $", "? / $ A"}},
		{"not through a terminal at the end", grammar("A", "s t", "s", "s : t t A", "t :"), []string{"A / $", "? / A"}},
		{"not through one that can't", grammar("A", "s t u", "s", "s : t u", "t :", "u : A"), []string{"A / $", "? / A", "A / $"}},
		{"not through one that can't, first", grammar("A", "s t u", "s", "s : u t", "t :", "u : A"), []string{"A / $", "? / $", "A / $"}},
		{"not through itself", grammar("", "s", "s", "s : s"), []string{"/ $"}},
		{"not through itself twice", grammar("", "s", "s", "s : s s"), []string{"/ $"}},
		{"not through each other", grammar("", "s t", "s", "s : t", "t : s"), []string{"/ $", "/ $"}},
		{"not through one that only leads to itself", grammar("", "s t u", "s", "s : t u", "t :", "u : t u"), []string{"/ $", "? /", "/ $"}},
		{"through itself and by itself", grammar("", "s", "s", "s : s s", "s :"), []string{"? / $"}},
		{"through each other and by itself", grammar("", "s t", "s", "s : t", "t : s", "t :"), []string{"? / $", "? / $"}},
		{"through eight", grammar("", "s t", "s", "s : t t t t t t t t", "t :"), []string{"? / $", "? / $"}},
		{"not through seven and a terminal", grammar("A", "s t", "s", "s : t t t t t t t A", "t :"), []string{"A / $", "? / A"}},
		{"not through seven and one that can't", grammar("A", "s t u", "s", "s : t t t t t t t u", "t :", "u : A"), []string{"A / $", "? / A", "A / $"}},
		{"unreachable ones too", grammar("A", "s t u", "s", "s : A", "t : u", "u :"), []string{"A / $", "? /", "? /"}},
	})
}

// P11.1: FIRST sets.
func TestFirst(t *testing.T) {
	each(t, []example{
		{"a terminal", grammar("A B C", "s", "s", "s : B C A"), []string{"B / $"}},
		{"terminals of several rules, in increasing order", grammar("A B C D", "s", "s", "s : D", "s : A C", "s : B", "s : A A"), []string{"A B D / $"}},
		{"through another one", grammar("A B", "s t", "s", "s : t B", "t : A"), []string{"A / $", "A / B"}},
		{"through one that is through another one", grammar("A B", "s t u", "s", "s : t", "t : u A", "u : B", "u : A A"), []string{"A B / $", "A B / $", "A B / A"}},
		{"behind one that can't be empty", grammar("A B", "s t", "s", "s : t B", "t : A A"), []string{"A / $", "A / B"}},
		{"behind one that can be empty", grammar("A B", "s t", "s", "s : t B", "t : A", "t :"), []string{"A B / $", "? A / B"}},
		{"behind one that is always empty", grammar("A", "s t", "s", "s : t A", "t :"), []string{"A / $", "? / A"}},
		{"behind one that is empty through others", grammar("A B C", "s t u", "s", "s : t C", "t : u u", "u : B", "u :"), []string{"B C / $", "? B / C", "? B / B C"}},
		{"behind several", grammar("A B C D", "s t u v", "s", "s : t u v D", "t : C", "t :", "u : B", "u :", "v : A", "v :"), []string{"A B C D / $", "? C / A B D", "? B / A D", "? A / D"}},
		{"behind seven", grammar("A B", "s t", "s", "s : t t t t t t t B", "t : A", "t :"), []string{"A B / $", "? A / A B"}},
		{"the eighth can be empty too", grammar("A B", "s t u", "s", "s : t t t t t t t u", "t :", "u : B", "u :"), []string{"? B / $", "? / $ B", "? B / $"}},
		{"not behind a terminal behind one", grammar("A B C", "s t", "s", "s : t B C", "t : A", "t :"), []string{"A B / $", "? A / B"}},
		{"not behind one that can't be empty, behind one that can", grammar("A B C", "s t u", "s", "s : t u C", "t : A", "t :", "u : B"), []string{"A B / $", "? A / B", "B / C"}},
		{"all can be empty", grammar("A B", "s t u", "s", "s : t u", "t : B", "t :", "u : A", "u :"), []string{"? A B / $", "? B / $ A", "? A / $"}},
		{"the left side first", grammar("A B", "s", "s", "s : s A", "s : B"), []string{"B / $ A"}},
		{"the left side first, and it can be empty", grammar("A B", "s", "s", "s : s A", "s :", "s : s s B"), []string{"? A B / $ A B"}},
		{"the left side first and nothing else", grammar("A", "s", "s", "s : s A"), []string{"/ $ A"}},
		{"the left side behind one that can be empty", grammar("A B C", "s t", "s", "s : t s A", "s : B", "t : C", "t :"), []string{"B C / $ A", "? C / B C"}},
		{"the left side in the middle", grammar("A B C", "s", "s", "s : A s B", "s : C"), []string{"A C / $ B"}},
		{"the left side last", grammar("A B", "s", "s", "s : A s", "s : B"), []string{"A B / $"}},
		{"two that begin with each other", grammar("A B C", "s t", "s", "s : t A", "s : B", "t : s", "t : C"), []string{"B C / $ A", "B C / A"}},
		{"three that begin with each other", grammar("A B C", "s t u", "s", "s : t", "t : u", "u : s", "s : A", "t : B", "u : C"), []string{"A B C / $", "A B C / $", "A B C / $"}},
		{"one that only begins with itself", grammar("A B", "s t", "s", "s : t A", "s : B", "t : t"), []string{"B / $", "/ A"}},
		{"one without a word, but with a first terminal", grammar("A B", "s t", "s", "s : t", "s : B", "t : A t"), []string{"A B / $", "A / $"}},
		{"a rule with a part without a word", grammar("A B C", "s t", "s", "s : A t", "s : B", "t : t C"), []string{"A B / $", "/ $ C"}},
		{"the numbers decide, not the names", grammar("Z '+' A", "s", "s", "s : A", "s : Z", "s : '+'"), []string{"Z '+' A / $"}},
		{"not from what it follows", grammar("A B C", "s t", "s", "s : A t B", "t : C", "t :"), []string{"A / $", "? C / B"}},
		{"unreachable ones too", grammar("A B", "s t u", "s", "s : A", "t : u s", "u : B", "u :"), []string{"A / $", "A B /", "? B / A"}},
	})
}

// P11.1: FOLLOW sets of what comes behind a symbol on the right side of a rule.
func TestFollow(t *testing.T) {
	each(t, []example{
		{"only the end of input", grammar("A", "s", "s", "s : A"), []string{"A / $"}},
		{"Start is the last nonterminal", grammar("A B", "t s", "s", "t : A", "s : t B"), []string{"A / B", "A / $"}},
		{"Start is in the middle of the nonterminals", grammar("A B", "t s u", "s", "t : s A", "s : B", "u : s B"), []string{"B /", "B / $ A B", "B /"}},
		{"Start occurs on a right side", grammar("A B C", "s t", "s", "s : t", "s : A", "t : B s C"), []string{"A B / $ C", "B / $ C"}},
		{"a terminal behind it", grammar("A B", "s t", "s", "s : t B", "t : A"), []string{"A / $", "A / B"}},
		{"only the first terminal behind it", grammar("A B C", "s t", "s", "s : t B C", "t : A"), []string{"A / $", "A / B"}},
		{"terminals of several rules, in increasing order", grammar("A B C D", "s t", "s", "s : t D", "s : A t B", "s : t t", "t : C"), []string{"A C / $", "C / $ B C D"}},
		{"a nonterminal behind it", grammar("A B C D", "s t u", "s", "s : t u", "t : A", "u : C D", "u : B"), []string{"A / $", "A / B C", "B C / $"}},
		{"itself behind it", grammar("A B", "s t", "s", "s : t t B", "t : A"), []string{"A / $", "A / A B"}},
		{"one that can be empty between", grammar("A B C", "s t u", "s", "s : t u C", "t : A", "u : B", "u :"), []string{"A / $", "A / B C", "? B / C"}},
		{"one that is always empty between", grammar("A B", "s t u", "s", "s : t u B", "t : A", "u :"), []string{"A / $", "A / B", "? / B"}},
		{"several that can be empty between", grammar("A B C D", "s t u v", "s", "s : t u v u D", "t : A", "u : B", "u :", "v : C", "v :"), []string{"A / $", "A / B C D", "? B / B C D", "? C / B D"}},
		{"six that can be empty between", grammar("A B C", "s t u", "s", "s : t u u u u u u C", "t : A", "u : B", "u :"), []string{"A / $", "A / B C", "? B / B C"}},
		{"not behind one that can't be empty", grammar("A B C", "s t u", "s", "s : t u C", "t : A", "u : B"), []string{"A / $", "A / B", "B / C"}},
		{"behind one without a word", grammar("A B", "s t u", "s", "s : A t u B", "s : A", "t : A", "u : u"), []string{"A / $", "A /", "/ B"}},
		{"the left side first", grammar("A B", "s", "s", "s : s A", "s : B"), []string{"B / $ A"}},
		{"the left side twice", grammar("A B", "s", "s", "s : s s", "s : B", "s : A"), []string{"A B / $ A B"}},
		{"unreachable ones count", grammar("A B", "s t u", "s", "s : A", "t : u s B", "u : t"), []string{"A / $ B", "/ A", "/ A"}},
	})
}

// P11.1: FOLLOW sets that pass from a left side to the symbols at the end of its right sides.
func TestFollowOfLeftSides(t *testing.T) {
	each(t, []example{
		{"to the last one", grammar("A B C", "s t u", "s", "s : t C", "t : A u", "u : B"), []string{"A / $", "A / C", "B / C"}},
		{"to the only one", grammar("A B", "s t u", "s", "s : t B", "t : u", "u : A"), []string{"A / $", "A / B", "A / B"}},
		{"not to the one before a terminal", grammar("A B C", "s t u", "s", "s : t C", "t : u A", "u : B"), []string{"B / $", "B / C", "B / A"}},
		{"not to the one before one that can't be empty", grammar("A B C", "s t u v", "s", "s : t C", "t : u v", "u : A", "v : B"), []string{"A / $", "A / C", "A / B", "B / C"}},
		{"to the one before one that can be empty", grammar("A B C", "s t u v", "s", "s : t C", "t : u v", "u : A", "v : B", "v :"), []string{"A / $", "A / C", "A / B C", "? B / C"}},
		{"to the one before one that is empty through others", grammar("A B", "s t u v w", "s", "s : t B", "t : u v", "u : A", "v : w w", "w :"), []string{"A / $", "A / B", "A / B", "? / B", "? / B"}},
		{"to the one before several", grammar("A B C D", "s t u v w", "s", "s : t D", "t : u v w", "u : A", "v : B", "v :", "w : C", "w :"), []string{"A / $", "A / D", "A / B C D", "? B / C D", "? C / D"}},
		{"to the first of eight", grammar("A B C", "s t u v", "s", "s : t C", "t : u v v v v v v v", "u : A", "v : B", "v :"), []string{"A / $", "A / C", "A / B C", "? B / B C"}},
		{"from one to the next to the next", grammar("A B", "s t u v", "s", "s : t B", "t : u", "u : A v", "v : A"), []string{"A / $", "A / B", "A / B", "A / B"}},
		{"from one to the next to the next with smaller numbers", grammar("A B", "v u t s", "s", "s : t B", "t : u", "u : A v", "v : A"), []string{"A / B", "A / B", "A / B", "A / $"}},
		{"not from the last one to the left side", grammar("A B C", "s t u", "s", "s : A t", "t : B u", "u : C", "t : u A"), []string{"A / $", "B C / $", "C / $ A"}},
		{"the end of input to the last one", grammar("A B", "s t", "s", "s : A t", "t : B"), []string{"A / $", "B / $"}},
		{"the left side last", grammar("A B", "s", "s", "s : A s", "s : B"), []string{"A B / $"}},
		{"the left side before one that can be empty", grammar("A B", "s t", "s", "s : s t", "s : B", "t : A", "t :"), []string{"B / $ A", "? A / $ A"}},
		{"two that end with each other", grammar("A B C D", "s t u", "s", "s : t C", "s : u D", "t : A u", "u : B t", "t : A", "u : B"), []string{"A B / $", "A / C D", "B / C D"}},
		{"three that end with each other", grammar("A B C D", "s t u v", "s", "s : t A", "s : u B", "s : v C", "t : D u", "u : D v", "v : D t", "v : D"), []string{"D / $", "D / A B C", "D / A B C", "D / A B C"}},
		{"unreachable ones have nothing to pass on", grammar("A B", "s t u", "s", "s : A", "t : B u", "u : B"), []string{"A / $", "B /", "B /"}},
		{"unreachable ones pass on what they have", grammar("A B", "s t u", "s", "s : A", "t : s", "u : t B"), []string{"A / $ B", "A / B", "A /"}},
	})
}

// full returns a grammar of the greatest size in every respect, and which symbols can be empty: of three nonterminals one is
// by itself, one through others, and one is not.
func full() (api.Gram, []bool) {
	g := sized(api.MaxTerms, api.MaxNons)
	empty := make([]bool, gram.Top(g)+1)
	for i := range api.MaxRules {
		n := i % api.MaxNons
		left := g.Start + n
		var right []int
		for k := range api.MaxRight {
			right = append(right, g.Start+3*(i*7+k*k*5+i/api.MaxNons)%api.MaxNons)
		}
		switch {
		case n%3 == 0 && i < api.MaxNons:
			right = nil
		case n%3 != 1 || i < api.MaxNons:
			right[i%api.MaxRight] = 1 + i*11%api.MaxTerms
		}
		g.Rules = append(g.Rules, api.Rule{Left: left, Right: right})
		empty[left] = n%3 != 2
	}
	return g, empty
}

// P11.1, P11.2: a grammar of the greatest size, with its rules in both orders.
func TestMost(t *testing.T) {
	g, empty := full()
	for range 2 {
		s, want := first.Of(g), model(g, empty)
		holds(t, g, s, want)
		contained(t, g, s)
		for _, r := range g.Rules {
			lines(t, g, s, want, r.Right, slices.Concat(r.Right, r.Right), append([]int{r.Left}, r.Right...))
		}
		holds(t, g, s, want)
		slices.Reverse(g.Rules)
	}
}

// chain returns a grammar of the greatest size that is a chain of nonterminals from Start on, and these in their order; right
// returns the right sides for each of them, from its terminal and the next one in the chain, which is 0 for the last one.
func chain(down bool, right func(term, next int) [][]int) (api.Gram, []int) {
	g := sized(api.MaxTerms, api.MaxNons)
	var order []int
	for i := range g.Nons {
		order = append(order, g.Start+i)
	}
	if down {
		slices.Reverse(order)
	}
	g.Start = order[0]
	for i, left := range order {
		next := 0
		if i < len(order)-1 {
			next = order[i+1]
		}
		for _, r := range right(1+i, next) {
			g.Rules = append(g.Rules, api.Rule{Left: left, Right: r})
		}
	}
	return g, order
}

// span returns the numbers from one to another.
func span(from, to int) []int {
	var list []int
	for x := from; x <= to; x++ {
		list = append(list, x)
	}
	return list
}

// P11.1, P11.2: what passes through a chain of all nonterminals, with numbers that rise and fall and with the rules in both
// orders.
func TestChains(t *testing.T) {
	const last, mid = api.MaxNons, api.MaxNons / 2
	for _, x := range []struct {
		what  string
		right func(term, next int) [][]int
		want  func(at int) (bool, []int, []int)
	}{
		{"empty through the next one", func(term, next int) [][]int {
			if next == 0 {
				return [][]int{nil}
			}
			return [][]int{{next, next}}
		}, func(at int) (bool, []int, []int) { return true, nil, []int{0} }},
		{"empty behind the middle", func(term, next int) [][]int {
			switch {
			case next == 0:
				return [][]int{nil}
			case term == mid:
				return [][]int{{next, term}}
			}
			return [][]int{{next}}
		}, func(at int) (bool, []int, []int) {
			if at <= mid {
				return false, []int{mid}, []int{0}
			}
			return true, nil, []int{mid}
		}},
		{"FIRST sets of all terminals", func(term, next int) [][]int {
			if next == 0 {
				return [][]int{{term}}
			}
			return [][]int{{next}, {term}}
		}, func(at int) (bool, []int, []int) { return false, span(at, last), []int{0} }},
		{"FOLLOW sets of all terminals", func(term, next int) [][]int {
			if next == 0 {
				return [][]int{{term}}
			}
			return [][]int{{next}, {next, term}}
		}, func(at int) (bool, []int, []int) { return false, []int{last}, span(0, at-1) }},
		{"both, and all can be empty", func(term, next int) [][]int {
			if next == 0 {
				return [][]int{nil, {term}}
			}
			return [][]int{{next}, {next, term}}
		}, func(at int) (bool, []int, []int) { return true, span(at, last), span(0, at-1) }},
	} {
		for _, down := range []bool{false, true} {
			g, order := chain(down, x.right)
			for range 2 {
				s := first.Of(g)
				for i, n := range order {
					empty, firsts, follows := x.want(1 + i)
					if s.Empty(n) != empty || !slices.Equal(s.First(n), firsts) || !slices.Equal(s.Follow(n), follows) {
						t.Errorf("%s, down %t: %d is %t %v %v, want %t %v %v", x.what, down, 1+i, s.Empty(n), s.First(n), s.Follow(n), empty, firsts, follows)
					}
				}
				contained(t, g, s)
				slices.Reverse(g.Rules)
			}
		}
	}
}

// P11.1: terminals, the end of input, and numbers that are no symbol.
func TestNumbers(t *testing.T) {
	most, _ := full()
	for _, g := range []api.Gram{grammar("", "s", "s", "s :"), grammar("A B", "s t", "s", "s : t B", "t : A", "t :"), most} {
		s := first.Of(g)
		for x := range len(g.Terms) + 1 {
			if s.Empty(x) || !slices.Equal(s.First(x), []int{x}) || len(s.Follow(x)) != 0 {
				t.Errorf("%d of %d terminals is %t %v %v", x, len(g.Terms), s.Empty(x), s.First(x), s.Follow(x))
			}
		}
		top := gram.Top(g)
		for _, x := range []int{-1, -2, -63, -64, -top, top + 1, top + 2, top + 64, 2*top + 1, api.MaxSet, api.MaxSet + 1, 1 << 31, 1 << 32, 1<<32 + 1, math.MinInt, math.MinInt + 1, math.MaxInt} {
			if s.Empty(x) || len(s.First(x)) != 0 || len(s.Follow(x)) != 0 {
				t.Errorf("%d is no symbol, but %t %v %v", x, s.Empty(x), s.First(x), s.Follow(x))
			}
			for _, l := range [][]int{{x}, {x, 0}, {x, top}, {x, x, x}} {
				if got, all := s.Line(l); len(got) != 0 || all {
					t.Errorf("Line(%v) is %v %t", l, got, all)
				}
			}
		}
	}
}

// P11.1: FIRST sets of sequences.
func TestLine(t *testing.T) {
	g := grammar("A B C D", "s t u v w", "s", "s : t u D", "t : B", "t :", "u : A", "u :", "v : t u", "w : C", "w : w D")
	s := first.Of(g)
	find := func(name string) int { return gram.Find(g, name) }
	top := gram.Top(g)
	for _, x := range []struct {
		what string
		l    []int
		want string
		all  bool
	}{
		{"nil", nil, "", true}, {"empty", []int{}, "", true},
		{"the end of input", []int{0}, "$", false}, {"only the first one of two ends", []int{0, 0}, "$", false},
		{"a terminal", []int{find("C")}, "C", false}, {"only the first terminal", []int{find("C"), find("A")}, "C", false},
		{"one that can't be empty", []int{find("s")}, "A B D", false}, {"what comes behind it", []int{find("w"), find("t"), 0}, "C", false},
		{"one that can be empty", []int{find("t")}, "B", true}, {"one that is empty through others", []int{find("v")}, "A B", true},
		{"the same one again", []int{find("t"), find("t"), find("t")}, "B", true},
		{"all can be empty", []int{find("t"), find("u")}, "A B", true}, {"in the other order", []int{find("u"), find("t")}, "A B", true},
		{"the end of input behind one", []int{find("t"), 0}, "$ B", false}, {"the end of input behind several", []int{find("t"), find("v"), find("u"), 0, find("C")}, "$ A B", false},
		{"the end of input first", []int{0, find("t")}, "$", false},
		{"a terminal behind one", []int{find("t"), find("A"), find("C")}, "A B", false}, {"one that can't be empty behind one", []int{find("u"), find("w"), find("t")}, "A C", false},
		{"a terminal that is there already", []int{find("t"), find("B")}, "B", false},
		{"no symbol", []int{-1}, "", false}, {"no symbol beyond the last one", []int{top + 1}, "", false},
		{"no symbol behind one that can be empty", []int{find("t"), -1}, "B", false}, {"what comes behind it", []int{find("t"), top + 1, find("u"), find("C")}, "B", false},
		{"no symbol behind one that can't be empty", []int{find("w"), -1}, "C", false}, {"extreme numbers", []int{find("t"), math.MinInt, math.MaxInt}, "B", false},
		{"a great many", append(slices.Repeat([]int{find("t"), find("u")}, 1<<16), find("D"), find("C")), "A B D", false},
		{"a great many, all of which can be empty", slices.Repeat([]int{find("v"), find("t")}, 1<<16), "A B", true},
	} {
		before := slices.Clone(x.l)
		for range 2 {
			got, all := s.Line(x.l)
			var names []string
			for _, y := range got {
				names = append(names, gram.Name(g, y))
			}
			if text := strings.Join(names, " "); text != x.want || all != x.all {
				t.Errorf("%s: Line is %q %t, want %q %t", x.what, text, all, x.want, x.all)
			}
		}
		if !slices.Equal(x.l, before) {
			t.Errorf("%s: the list was modified", x.what)
		}
	}
}

// P11.2: the right sides of the rules of a grammar whose sets are known.
func TestRightSides(t *testing.T) {
	g := grammar("A B C", "s t u", "s", "s : t u A", "s : B s", "t : B", "t :", "u : t C", "u :")
	s := first.Of(g)
	contained(t, g, s)
	for i, want := range []string{"A B C", "B", "B", "", "B C", ""} {
		got, all := s.Line(g.Rules[i].Right)
		if text := strings.Trim(line(g, false, got, nil), " /"); text != want || all != (want == "") {
			t.Errorf("rule %d: the right side has %q %t, want %q", i, text, all, want)
		}
	}
}

// P11.1: grammars that are not valid, by each condition of chapter 6.
func TestInvalid(t *testing.T) {
	for _, x := range sample.Invalid() {
		if first.Of(x.G) != nil {
			t.Errorf("%s has sets", short(x.G))
		}
	}
	expect(t, sample.Valid(), "A / $", "/ $", "? /")
}

// P11.1: a nil receiver. Sets that no call made must not panic either.
func TestNil(t *testing.T) {
	var none *first.Sets
	zero := &first.Sets{}
	for _, x := range []int{0, 1, 2, 3, -1, 64, api.MaxSet, math.MinInt, math.MaxInt} {
		if none.Empty(x) || len(none.First(x)) != 0 || len(none.Follow(x)) != 0 {
			t.Errorf("nil: %d is %t %v %v", x, none.Empty(x), none.First(x), none.Follow(x))
		}
		if zero.Empty(x) || len(zero.First(x)) != 0 || len(zero.Follow(x)) != 0 {
			t.Errorf("zero: %d is %t %v %v", x, zero.Empty(x), zero.First(x), zero.Follow(x))
		}
	}
	for _, l := range [][]int{nil, {}, {0}, {1}, {0, 0}, {-1}, {math.MinInt, math.MaxInt}} {
		if got, all := none.Line(l); len(got) != 0 || all {
			t.Errorf("nil: Line(%v) is %v %t", l, got, all)
		}
		zero.Line(l)
	}
}

// P11.1: nil and empty lists are alike.
func TestNilAndEmpty(t *testing.T) {
	for _, terms := range [][]string{nil, {}} {
		for _, right := range [][]int{nil, {}} {
			expect(t, api.Gram{Terms: terms, Nons: []string{"s", "t"}, Rules: []api.Rule{{Left: 1, Right: []int{2}}, {Left: 2, Right: right}}, Start: 1}, "? / $", "? / $")
		}
		if first.Of(api.Gram{Terms: terms, Nons: []string{}, Rules: []api.Rule{}}) != nil {
			t.Error("a grammar without nonterminals has sets")
		}
	}
}

// The grammar is left as it is, and nothing of it is kept: what is done to it afterwards does not change the answers. Nor
// does what is done to an answer, what was asked before, or another grammar.
func TestAnswersAreNew(t *testing.T) {
	rules := []string{"s : t u B", "t : A", "t :", "u : t t", "u : B s"}
	g, same := grammar("A B", "s t u", "s", rules...), grammar("A B", "s t u", "s", rules...)
	s := first.Of(g)
	other := grammar("A B", "s t u", "u", "s : A", "t : s B", "u : t")
	so := first.Of(other)
	if !gram.Same(g, same) {
		t.Errorf("the argument became %v", g)
	}
	for i := range g.Rules {
		clear(g.Rules[i].Right)
	}
	clear(g.Rules)
	clear(g.Terms)
	clear(g.Nons)
	want := model(same, []bool{false, false, false, false, true, true})
	for range 2 {
		holds(t, same, s, want)
		holds(t, other, so, model(other, make([]bool, 6)))
		l := []int{4, 5, 0}
		whole, _ := s.Line(l)
		if !slices.Equal(l, []int{4, 5, 0}) || !slices.Equal(whole, []int{0, 1, 2}) {
			t.Errorf("Line(%v) is %v", l, whole)
		}
		answers := [][]int{l, whole}
		for x := range 6 {
			answers = append(answers, s.First(x), s.Follow(x))
		}
		for _, list := range answers {
			clear(append(list, -1))
			clear(list)
		}
	}
}

// The example of the chapter.
func TestExample(t *testing.T) {
	g := grammar("A B", "s t", "s", "s : t A", "t : B", "t :")
	expect(t, g, "A B / $", "? B / A")
	s := first.Of(g)
	if !slices.Equal(s.First(3), []int{1, 2}) || !slices.Equal(s.Follow(4), []int{1}) {
		t.Errorf("the example has %v and %v", s.First(3), s.Follow(4))
	}
}
