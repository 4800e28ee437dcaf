package live_test

import (
	"fmt"
	"slices"
	"strings"
	"testing"

	"conch/api"
	"conch/gram"
	"conch/live"
	"conch/sample"
)

// The model is the chapter once more by other means: productive symbols are found by looking for a tree on whose paths no
// nonterminal occurs twice, reachable ones by paths between all pairs of symbols, and a grammar is trimmed as a list of names.

// productive reports whether there is a tree below s without the nonterminals of path.
func productive(g api.Gram, s int, path ...int) bool {
	if s <= len(g.Terms) {
		return true
	}
	path = append(path[:len(path):len(path)], s)
	return slices.ContainsFunc(g.Rules, func(r api.Rule) bool {
		return r.Left == s && !slices.ContainsFunc(r.Right, func(next int) bool { return slices.Contains(path, next) || !productive(g, next, path...) })
	})
}

// paths tells for each symbol of the grammar which ones can be reached from it.
func paths(g api.Gram) [][]bool {
	n := gram.Top(g) + 1
	leads := make([][]bool, n)
	for s := range leads {
		leads[s] = make([]bool, n)
		leads[s][s] = true
	}
	for _, r := range g.Rules {
		for _, s := range r.Right {
			leads[r.Left][s] = true
		}
	}
	for by := range n {
		for from := range n {
			for to := range n {
				leads[from][to] = leads[from][to] || leads[from][by] && leads[by][to]
			}
		}
	}
	return leads
}

// answers are what the four calls return.
type answers struct {
	productive []int
	reached    []int
	e          api.Errno
	s          int
	trimmed    api.Gram
	ok         bool
}

// model returns the answers that the chapter asks for.
func model(g api.Gram) answers {
	if e := gram.Check(g); e != api.OK {
		return answers{e: e}
	}
	var a answers
	leads := paths(g)
	for s := 1; s <= gram.Top(g); s++ {
		lives := productive(g, s)
		if s > len(g.Terms) && lives {
			a.productive = append(a.productive, s)
		}
		if leads[g.Start][s] {
			a.reached = append(a.reached, s)
		}
		if a.e == api.OK && (!lives || !leads[g.Start][s]) {
			a.e, a.s = api.ErrDead, s
		}
	}
	if a.ok = slices.Contains(a.productive, g.Start); a.ok {
		a.trimmed = trimmed(g, a.productive)
	}
	return a
}

// trimmed removes what the chapter says, in two steps, and puts the grammar together again by names.
func trimmed(g api.Gram, productive []int) api.Gram {
	var rules []api.Rule
	for _, r := range g.Rules {
		if !slices.ContainsFunc(append([]int{r.Left}, r.Right...), func(s int) bool { return s > len(g.Terms) && !slices.Contains(productive, s) }) {
			rules = append(rules, r)
		}
	}
	g.Rules = rules
	keep := paths(g)[g.Start]
	var terms, nons, texts []string
	for s := 1; s <= gram.Top(g); s++ {
		if keep[s] && s <= len(g.Terms) {
			terms = append(terms, gram.Name(g, s))
		} else if keep[s] {
			nons = append(nons, gram.Name(g, s))
		}
	}
	for _, r := range rules {
		if keep[r.Left] {
			text := gram.Name(g, r.Left) + " :"
			for _, s := range r.Right {
				text += " " + gram.Name(g, s)
			}
			texts = append(texts, text)
		}
	}
	return grammar(strings.Join(terms, " "), strings.Join(nons, " "), gram.Name(g, g.Start), texts...)
}

// twin returns a copy of g that shares no list with it. What lies behind the end of its lists is marked.
func twin(g api.Gram) api.Gram {
	c := api.Gram{Terms: spare(g.Terms, "?"), Nons: spare(g.Nons, "?"), Rules: spare(g.Rules, api.Rule{Left: -9}), Start: g.Start}
	for i := range c.Rules {
		c.Rules[i].Right = spare(c.Rules[i].Right, -9)
	}
	return c
}

// spare returns a copy of list with a mark behind its end.
func spare[E any](list []E, mark E) []E {
	return append(slices.Clone(list), mark)[:len(list)]
}

// look renders what twin returned, with what lies behind the end of its lists.
func look(g api.Gram) string {
	var b strings.Builder
	fmt.Fprintf(&b, "%q %q %d", g.Terms[:len(g.Terms)+1], g.Nons[:len(g.Nons)+1], g.Start)
	for i, r := range g.Rules[:len(g.Rules)+1] {
		if i < len(g.Rules) {
			r.Right = r.Right[:len(r.Right)+1]
		}
		fmt.Fprintf(&b, " %d%v", r.Left, r.Right)
	}
	return b.String()
}

// answer asks all four calls.
func answer(g api.Gram) answers {
	a := answers{productive: live.Productive(g), reached: live.Reached(g)}
	a.e, a.s = live.Check(g)
	a.trimmed, a.ok = live.Trim(g)
	return a
}

func (a answers) same(b answers) bool {
	return slices.Equal(a.productive, b.productive) && slices.Equal(a.reached, b.reached) && a.e == b.e && a.s == b.s && a.ok == b.ok && gram.Same(a.trimmed, b.trimmed)
}

// agree asks about g twice, which must get the answers of the model each time and leave g as it is, and then about what was trimmed.
func agree(t *testing.T, g api.Gram) answers {
	t.Helper()
	g = twin(g)
	before, want := look(g), model(g)
	for range 2 {
		if got := answer(g); !got.same(want) {
			t.Errorf("%.400s: %.400v, want %.400v", before, got, want)
		}
	}
	if look(g) != before {
		t.Errorf("an argument was modified: %.400s, before %.400s", look(g), before)
	}
	if want.ok {
		clean(t, want.trimmed)
	}
	return want
}

// clean demands of a trimmed grammar that it is valid, has nothing useless and does not change when it is trimmed again.
func clean(t *testing.T, g api.Gram) {
	t.Helper()
	all := make([]int, gram.Top(g))
	for i := range all {
		all[i] = i + 1
	}
	if got := answer(g); !got.same(answers{productive: all[len(g.Terms):], reached: all, trimmed: g, ok: true}) {
		t.Errorf("%.400v has useless symbols: %.400v", g, got)
	}
}

// P9.1, P9.2: all subsets of some rules, in both orders and with each Start.
func TestSmallGrammars(t *testing.T) {
	type kind struct {
		e  api.Errno
		ok bool
	}
	counts := map[kind]int{}
	for _, x := range []struct{ terms, nons, rules string }{
		{"", "s", "s : | s : s | s : s s"},
		{"A", "s t", "s : | s : A | s : t | s : t s | t : | t : A | t : s | t : A t | t : t t"},
		{"A B C", "s t u", "s : A | s : t u | s : B s | t : B | t : t | t : u t | t : C s | u : | u : u u | u : A u B | u : s"},
	} {
		for rules := range sample.Subsets(x.rules) {
			for range 2 {
				for _, start := range strings.Fields(x.terms + " " + x.nons + " none") {
					a := agree(t, grammar(x.terms, x.nons, start, rules...))
					counts[kind{a.e, a.ok}]++
				}
				slices.Reverse(rules)
			}
		}
	}
	for _, k := range []kind{{api.OK, true}, {api.ErrDead, true}, {api.ErrDead, false}, {api.ErrNone, false}, {api.ErrArg, false}} {
		if counts[k] < 100 {
			t.Errorf("the grammars are too much alike: %v", counts)
		}
	}
}

// P9.1, P9.2: strewn grammars of all sizes.
func TestStrewnGrammars(t *testing.T) {
	counts := map[int]int{}
	for g := range sample.Strewn(4000, sample.Size{Terms: 6, Nons: 7, Rules: 2, Right: 3}) {
		if a := agree(t, g); a.ok {
			counts[gram.Top(g)-gram.Top(a.trimmed)]++
		}
	}
	if len(counts) < 8 {
		t.Errorf("the grammars are too much alike: %v", counts)
	}
}
