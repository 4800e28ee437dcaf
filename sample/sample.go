// Package sample makes grammars and tables for the tests of the layers. No layer uses
// it.
package sample

import (
	"iter"
	"math"
	"slices"
	"strconv"
	"strings"

	"conch/api"
	"conch/gram"
)

// Grammar puts a grammar together: names parted by blanks, and rules such as
// "s : A t". A name that no symbol has becomes 0, so that the grammar is not
// valid.
func Grammar(terms, nons, start string, rules ...string) api.Gram {
	g := api.Gram{Terms: strings.Fields(terms), Nons: strings.Fields(nons)}
	g.Start = gram.Find(g, start)
	for _, text := range rules {
		words := strings.Fields(text)
		r := api.Rule{Left: gram.Find(g, words[0])}
		for _, name := range words[2:] {
			r.Right = append(r.Right, gram.Find(g, name))
		}
		g.Rules = append(g.Rules, r)
	}
	return g
}

// Item renders an item, such as "s : A . t".
func Item(g api.Gram, x api.Item) string {
	r, ok := gram.Rule(g, x.Rule)
	if !ok || x.Dot < 0 || x.Dot > len(r.Right) {
		return "no item"
	}
	words := []string{gram.Name(g, r.Left), ":"}
	for _, s := range r.Right {
		words = append(words, gram.Name(g, s))
	}
	return strings.Join(slices.Insert(words, 2+x.Dot, "."), " ")
}

// Sized returns a grammar with that many terminals and nonterminals and without
// rules.
func Sized(terms, nons int) api.Gram {
	var g api.Gram
	for i := range terms {
		g.Terms = append(g.Terms, "T"+strconv.Itoa(i))
	}
	for i := range nons {
		g.Nons = append(g.Nons, "n"+strconv.Itoa(i))
	}
	g.Start = terms + 1
	return g
}

// Subsets yields all subsets of some rules, which are parted by " | ".
func Subsets(rules string) iter.Seq[[]string] {
	pool := strings.Split(rules, " | ")
	return func(yield func([]string) bool) {
		for bits := range 1 << len(pool) {
			var subset []string
			for i, r := range pool {
				if bits>>i&1 != 0 {
					subset = append(subset, r)
				}
			}
			if !yield(subset) {
				return
			}
		}
	}
}

// Small yields the valid grammars that have a part of some rules, which are
// parted by " | ", and any nonterminal as Start.
func Small(terms, nons, rules string) iter.Seq[api.Gram] {
	return func(yield func(api.Gram) bool) {
		for subset := range Subsets(rules) {
			for _, start := range strings.Fields(nons) {
				g := Grammar(terms, nons, start, subset...)
				if gram.Check(g) == api.OK && !yield(g) {
					return
				}
			}
		}
	}
}

// Size holds the greatest numbers of terminals, of nonterminals, of rules of one
// nonterminal, and of symbols of a right side.
type Size struct {
	Terms, Nons, Rules, Right int
}

// Strewn yields that many grammars up to a size, the same ones each time. Rules
// may be equal.
func Strewn(count int, most Size) iter.Seq[api.Gram] {
	return func(yield func(api.Gram) bool) {
		var s strewer
		for range count {
			if !yield(s.grammar(most)) {
				return
			}
		}
	}
}

// strewer holds the state of a linear congruential sequence.
type strewer struct {
	state uint32
}

// next returns a number below n.
func (s *strewer) next(n int) int {
	s.state = s.state*1664525 + 1013904223
	return int(s.state>>8) % n
}

// grammar returns the next grammar.
func (s *strewer) grammar(most Size) api.Gram {
	g := Sized(s.next(most.Terms+1), 1+s.next(most.Nons))
	for i := range g.Nons {
		for range 1 + s.next(most.Rules) {
			r := api.Rule{Left: len(g.Terms) + 1 + i}
			for range s.next(most.Right + 1) {
				r.Right = append(r.Right, 1+s.next(gram.Top(g)))
			}
			g.Rules = append(g.Rules, r)
		}
	}
	for i := range g.Rules {
		k := s.next(len(g.Rules))
		g.Rules[i], g.Rules[k] = g.Rules[k], g.Rules[i]
	}
	g.Start = len(g.Terms) + 1 + s.next(len(g.Nons))
	return g
}

// Bad is a grammar that is not valid, and its error.
type Bad struct {
	E api.Errno
	G api.Gram
}

// Invalid returns grammars that are not valid, by each condition of chapter 6.
func Invalid() []Bad {
	return slices.Concat(
		bad(api.ErrMany, Sized(api.MaxTerms+1, 1), Sized(0, api.MaxNons+1), Sized(5000, 5000),
			ruled(3, slices.Repeat([]int{1}, api.MaxRight+1)...), repeated(api.MaxRules)),
		bad(api.ErrForm, misnamed()...),
		bad(api.ErrTwice, renamed(2, "A"), renamed(5, "s"), renamed(5, "B"), ruled(3, 1), ruled(5)),
		bad(api.ErrArg, misnumbered()...),
		bad(api.ErrNone, Grammar("", "s", "s"), Grammar("A", "s t", "s", "s : A"), Grammar("A B", "s t u", "s", "s : A", "s : t", "t : t"),
			Sized(api.MaxTerms, api.MaxNons)),
	)
}

// bad returns the grammars with their error.
func bad(e api.Errno, grammars ...api.Gram) []Bad {
	var list []Bad
	for _, g := range grammars {
		list = append(list, Bad{e, g})
	}
	return list
}

// Valid returns the valid grammar that those of Invalid are made of: it has
// useless symbols of each kind, a symbol without a word, and an empty rule.
func Valid() api.Gram {
	return Grammar("A B", "s t u", "s", "s : A", "s : t", "t : t", "u :")
}

// misnamed returns grammars in which a name does not have its form.
func misnamed() []api.Gram {
	long := strings.Repeat("a", api.MaxName+1)
	var list []api.Gram
	for _, name := range []string{"", "''", "$", long} {
		list = append(list, renamed(2, name), renamed(5, name))
	}
	return append(list, renamed(5, "'u'"))
}

// misnumbered returns grammars in which a number is not a symbol that can stand
// there.
func misnumbered() []api.Gram {
	list := []api.Gram{{}, {Start: 1}, Grammar("A", "", "A"), ruled(3, 0), ruled(3, 1, -1)}
	for _, s := range []int{0, 1, 6, -1, math.MinInt, math.MaxInt} {
		started := Valid()
		started.Start = s
		list = append(list, started, ruled(s))
		if s != 0 && s != 1 {
			list = append(list, ruled(4, s), ruled(5, 1, s))
		}
	}
	return list
}

// ruled returns the valid grammar with another rule.
func ruled(left int, right ...int) api.Gram {
	g := Valid()
	g.Rules = append(g.Rules, api.Rule{Left: left, Right: right})
	return g
}

// renamed returns the valid grammar with another name for the symbol: 1 and 2
// are terminals, 3 to 5 nonterminals.
func renamed(s int, name string) api.Gram {
	g := Valid()
	if gram.Term(g, s) {
		g.Terms[s-1] = name
	} else {
		g.Nons[s-len(g.Terms)-1] = name
	}
	return g
}

// repeated returns the valid grammar with its rules that many times.
func repeated(times int) api.Gram {
	g := Valid()
	g.Rules = slices.Repeat(g.Rules, times)
	return g
}
