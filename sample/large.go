package sample

import (
	"slices"
	"strconv"

	"conch/api"
)

// Sharp returns a grammar whose automaton has that many states, from 3 on: 0, the
// one after Start, and one for each beginning of a rule.
func Sharp(states int) api.Gram {
	g := Sized(api.MaxTerms, 1)
	for i, left := 0, states-2; left > 0; i++ {
		first, second := 1+i%api.MaxTerms, 1+i/api.MaxTerms
		old := min(i/api.MaxTerms, 1)
		list := append([]int{first}, slices.Repeat([]int{second}, api.MaxRight-1)...)[:min(api.MaxRight, left+old)]
		g.Rules = append(g.Rules, api.Rule{Left: g.Start, Right: list})
		left -= len(list) - old
	}
	return g
}

// Remembering returns a grammar whose states tell which of n terminals have
// occurred and which one was the last: their number grows with the powers of 2.
func Remembering(n int) api.Gram {
	g := Sized(n, n+1)
	for i := range n {
		non := g.Start + 1 + i
		g.Rules = append(g.Rules, api.Rule{Left: g.Start, Right: []int{non}}, api.Rule{Left: non, Right: []int{1 + i}})
		for k := range n {
			if k != i {
				g.Rules = append(g.Rules, api.Rule{Left: non, Right: []int{1 + k, non}})
			}
		}
	}
	return g
}

// Around returns a grammar of the greatest size, with that many terminals on each
// right side, in which each nonterminal begins with the next one and the last one
// with the first, so that each closure has all rules in it.
func Around(right int) api.Gram {
	g := Sized(api.MaxTerms, api.MaxNons)
	for i := range api.MaxRules {
		k := i % api.MaxNons
		list := append([]int{g.Start + (k+1)%api.MaxNons}, slices.Repeat([]int{1 + i%api.MaxTerms}, right)...)
		list[len(list)-1] = 1 + (i*7+i/api.MaxNons)%api.MaxTerms
		g.Rules = append(g.Rules, api.Rule{Left: g.Start + k, Right: list})
	}
	return g
}

// Wide returns a grammar of the greatest size in which almost every state leads by
// every symbol to another one.
func Wide() api.Gram {
	g := Sized(api.MaxTerms, api.MaxNons)
	for i := range api.MaxRules {
		k := i % api.MaxNons
		list := []int{1 + k, g.Start}
		if i >= api.MaxNons {
			list = slices.Repeat([]int{g.Start}, api.MaxRight)
			list[0] = g.Start + (k+1)%api.MaxNons
		}
		if i >= 2*api.MaxNons {
			list[1] = g.Start + (k+5)%api.MaxNons
		}
		g.Rules = append(g.Rules, api.Rule{Left: g.Start + k, Right: list})
	}
	return g
}

// Doubling returns a grammar with a nonterminal for the minimal word of n terminals
// B, for each power of two up to MaxWord, and then nonterminals of these rules, which
// can have the terminals A, B and C. Start is the nonterminal for one B.
func Doubling(nons string, rules ...string) api.Gram {
	all := []string{"b1 : B"}
	names := "b1"
	for n := 2; n <= api.MaxWord; n *= 2 {
		half := " b" + strconv.Itoa(n/2)
		names += " b" + strconv.Itoa(n)
		all = append(all, "b"+strconv.Itoa(n)+" :"+half+half)
	}
	return Grammar("A B C", names+" "+nons, "b1", slices.Concat(rules, all)...)
}
