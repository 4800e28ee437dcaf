package look_test

import (
	"fmt"
	"slices"
	"testing"

	"conch/api"
	"conch/auto"
	"conch/first"
	"conch/gram"
	"conch/item"
	"conch/live"
	"conch/look"
	"conch/sample"
)

// The models are the chapter once more by other means. The first one goes through whole rules, from the state in which one
// begins to the state in which it ends, and passes lookaheads from nonterminal to nonterminal. The second one goes all ways from
// state 0 and keeps for each of them the items with their lookaheads, as the states of canonical LR(1) do. The third one, for
// grammars of which each nonterminal derives a string of terminals, knows no lookaheads: it derives strings from Start, always by
// the last nonterminal, and notes what stands behind the symbols that a rule has just made.

// short renders a value, but not more than the beginning of a long one.
func short(value any) string {
	text := fmt.Sprint(value)
	return text[:min(len(text), 300)]
}

// text renders what Of returns.
func text(l [][]api.Look) string {
	return fmt.Sprint(l)
}

// stop ends a test that has failed: other grammars would tell the same again.
func stop(t *testing.T) {
	t.Helper()
	if t.Failed() {
		t.FailNow()
	}
}

// terms holds terminals, and the end of input, as bits.
type terms [2]uint64

// of returns the set of these terminals.
func of(list []int) terms {
	var x terms
	for _, t := range list {
		x[t/64] |= 1 << (t % 64)
	}
	return x
}

// list returns the terminals in increasing order.
func (x terms) list() []int {
	var list []int
	for t := range 128 {
		if x[t/64]>>(t%64)&1 != 0 {
			list = append(list, t)
		}
	}
	return list
}

// or returns the terminals of both sets.
func (x terms) or(y terms) terms {
	return terms{x[0] | y[0], x[1] | y[1]}
}

// ends holds the lookaheads of rules that end, by state and rule.
type ends map[[2]int]terms

// add adds lookaheads.
func (e ends) add(state, rule int, x terms) {
	e[[2]int{state, rule}] = e[[2]int{state, rule}].or(x)
}

// model answers for a valid grammar.
type model struct {
	g      api.Gram
	states []api.State
	rules  []api.Rule // with the augmented rule behind all others
	sets   *first.Sets
	to     [][]int // by state and symbol
}

// modelOf returns the model of a grammar.
func modelOf(g api.Gram, states []api.State) *model {
	m := &model{g: g, states: states, rules: append(slices.Clone(g.Rules), api.Rule{Right: []int{g.Start}}), sets: first.Of(g)}
	for i := range states {
		row := make([]int, gram.Top(g)+1)
		for s := range row {
			row[s] = -1
		}
		for _, x := range states[i].Trans {
			row[x.Sym] = x.To
		}
		m.to = append(m.to, row)
	}
	return m
}

// lists returns what Of must return if the lookaheads are these. Which rules end in a state hangs on its items alone.
func (m *model) lists(e ends) [][]api.Look {
	list := make([][]api.Look, len(m.states))
	for i, x := range m.states {
		for _, y := range item.Close(m.g, x.Items) {
			if y.Dot == len(m.rules[y.Rule].Right) {
				list[i] = append(list[i], api.Look{Rule: y.Rule, Terms: e[[2]int{i, y.Rule}].list()})
			}
		}
	}
	return list
}

// behind is the FIRST set of what stands behind a symbol of a rule, and whether all of that can be empty.
type behind struct {
	firsts terms
	empty  bool
}

// behinds returns them for each rule and each of its symbols.
func (m *model) behinds() [][]behind {
	var list [][]behind
	for _, r := range m.rules {
		var row []behind
		for k := range r.Right {
			firsts, empty := m.sets.Line(r.Right[k+1:])
			row = append(row, behind{of(firsts), empty})
		}
		list = append(list, row)
	}
	return list
}

// byRules is the first model. Passes over all nonterminals of all states are made until one changes nothing.
func (m *model) byRules() ends {
	begun := make([][]terms, len(m.states)) // by state and nonterminal
	for i := range begun {
		begun[i] = make([]terms, gram.Top(m.g)+1)
	}
	begun[0][0] = of([]int{0})
	for all, more := m.behinds(), true; more; {
		more = false
		for k, r := range m.rules {
			for i := range m.states {
				if m.pass(begun, i, r, all[k]) {
					more = true
				}
			}
		}
	}
	e := ends{}
	for i := range m.states {
		for k, r := range m.rules {
			if end := auto.Walk(m.states, i, r.Right); begun[i][r.Left] != (terms{}) && end != -1 {
				e.add(end, k, begun[i][r.Left])
			}
		}
	}
	return e
}

// pass goes through a rule that begins in state i, and reports whether that changed anything.
func (m *model) pass(begun [][]terms, i int, r api.Rule, all []behind) bool {
	own := begun[i][r.Left]
	if own == (terms{}) {
		return false
	}
	more := false
	for k, s := range r.Right {
		x := begun[i][s].or(all[k].firsts)
		if all[k].empty {
			x = x.or(own)
		}
		if gram.Non(m.g, s) && x != begun[i][s] {
			begun[i][s] = x
			more = true
		}
		i = m.to[i][s]
	}
	return more
}

// fact is an item with one lookahead.
type fact struct {
	x    api.Item
	term int
}

// reached is a state with the facts of one way to it.
type reached struct {
	state int
	facts map[fact]bool
}

// byWays is the second model. It gives up, with false, if there are more than most different ends of ways.
func (m *model) byWays(most int) (ends, bool) {
	e, seen := ends{}, map[string]bool{}
	work := []reached{{0, m.closed(fact{x: api.Item{Rule: len(m.g.Rules)}})}}
	for len(work) > 0 && len(seen) <= most {
		at := work[0]
		work = work[1:]
		if key := fmt.Sprint(at); seen[key] {
			continue
		} else {
			seen[key] = true
		}
		steps := make([][]fact, gram.Top(m.g)+1)
		for f := range at.facts {
			if right := m.rules[f.x.Rule].Right; f.x.Dot < len(right) {
				s := right[f.x.Dot]
				steps[s] = append(steps[s], fact{api.Item{Rule: f.x.Rule, Dot: f.x.Dot + 1}, f.term})
			} else {
				e.add(at.state, f.x.Rule, of([]int{f.term}))
			}
		}
		for s, facts := range steps {
			if len(facts) > 0 {
				work = append(work, reached{m.to[at.state][s], m.closed(facts...)})
			}
		}
	}
	return e, len(seen) <= most
}

// closed returns the facts and those that follow from them at the same place.
func (m *model) closed(work ...fact) map[fact]bool {
	facts := map[fact]bool{}
	for len(work) > 0 {
		f := work[0]
		work = work[1:]
		if facts[f] {
			continue
		}
		facts[f] = true
		right := m.rules[f.x.Rule].Right
		if f.x.Dot == len(right) {
			continue
		}
		begins, _ := m.sets.Line(append(slices.Clone(right[f.x.Dot+1:]), f.term))
		for _, k := range gram.Of(m.g, right[f.x.Dot]) {
			for _, term := range begins {
				work = append(work, fact{api.Item{Rule: k}, term})
			}
		}
	}
	return facts
}

// derived is the third model, for strings of at most most symbols.
func (m *model) derived(most int) ends {
	e, seen := ends{}, map[string]bool{}
	e.add(m.to[0][m.g.Start], len(m.g.Rules), of([]int{0}))
	work := [][]int{{m.g.Start}}
	for len(work) > 0 {
		form := work[0]
		work = work[1:]
		at := len(form) - 1
		for at >= 0 && !gram.Non(m.g, form[at]) {
			at--
		}
		if key := fmt.Sprint(form); seen[key] || at == -1 {
			continue
		} else {
			seen[key] = true
		}
		next := append(slices.Clone(form[at+1:]), 0)[0]
		for _, k := range gram.Of(m.g, form[at]) {
			head := append(slices.Clone(form[:at]), m.g.Rules[k].Right...)
			e.add(auto.Walk(m.states, 0, head), k, of([]int{next}))
			if whole := append(head, form[at+1:]...); len(whole) <= most {
				work = append(work, whole)
			}
		}
	}
	return e
}

// agree demands of a grammar that Of returns what the models do, the second one only where it comes to an end soon, and returns
// whether it did.
func agree(t *testing.T, g api.Gram) bool {
	t.Helper()
	before := fmt.Sprint(g)
	states, _ := auto.Build(g)
	m := modelOf(g, states)
	l, e := look.Of(g)
	if want := m.lists(m.byRules()); e != api.OK || text(l) != text(want) {
		t.Errorf("%s: Of is %s %d, by rules %s", short(g), text(l), e, text(want))
	}
	ways, soon := m.byWays(300)
	if want := m.lists(ways); soon && text(l) != text(want) {
		t.Errorf("%s: Of is %s, by ways %s", short(g), text(l), text(want))
	}
	follows(t, g, states, l)
	if after := fmt.Sprint(g); after != before {
		t.Errorf("%s was modified: %s", short(before), short(after))
	}
	stop(t)
	return soon
}

// follows demands what follows from the chapter: FOLLOW sets have all lookaheads, and the augmented rule, which ends in one state,
// has just the end of input.
func follows(t *testing.T, g api.Gram, states []api.State, l [][]api.Look) {
	t.Helper()
	if len(l) != len(states) {
		t.Fatalf("%s: %d lists for %d states", short(g), len(l), len(states))
	}
	sets := first.Of(g)
	for i, looks := range l {
		for k, x := range looks {
			r, ok := gram.Rule(g, x.Rule)
			if !ok || k > 0 && x.Rule <= looks[k-1].Rule {
				t.Errorf("%s: rule %d ends in state %d as number %d", short(g), x.Rule, i, k)
			}
			if x.Rule < len(g.Rules) && !within(x.Terms, sets.Follow(r.Left)) {
				t.Errorf("%s: rule %d is reduced in state %d before %v", short(g), x.Rule, i, x.Terms)
			}
			if x.Rule == len(g.Rules) && (i != auto.Goto(states, 0, g.Start) || !slices.Equal(x.Terms, []int{0})) {
				t.Errorf("%s: the augmented rule is reduced in state %d before %v", short(g), i, x.Terms)
			}
		}
	}
	stop(t)
}

// within reports whether the elements of a list are in increasing order, and all are in another one.
func within(list, others []int) bool {
	for i, x := range list {
		if i > 0 && x <= list[i-1] || !slices.Contains(others, x) {
			return false
		}
	}
	return true
}

// P14.1, P14.2: all subsets of some rules, with each nonterminal as Start. Where every nonterminal derives a string of terminals,
// the lookaheads are also those that are seen in what is derived from Start.
func TestSmallGrammars(t *testing.T) {
	all, whole, kinds := 0, 0, map[string]int{}
	for _, x := range []struct {
		most               int
		terms, nons, rules string
	}{
		{6, "", "s", "s : | s : s | s : s s"},
		{6, "A", "s t", "s : | s : A | s : t | s : t s | t : | t : A | t : s | t : A t | t : t t"},
		{7, "A B", "s t u", "s : t u | s : s A | s : B | t : | t : u | t : t A | u : s | u : B | u :"},
		{9, "A B", "t s", "s : A s B | s : A t A | s : B | t : A s | t : A B | t : t t s"},
		{7, "A B C", "s t u", "s : t u | s : A t | t : B t C | t : B | u : u A | u : C u | u : t B | s : C"},
	} {
		for g := range sample.Small(x.terms, x.nons, x.rules) {
			agree(t, g)
			l, _ := look.Of(g)
			all++
			kinds[text(l)]++
			if len(live.Productive(g)) < len(g.Nons) {
				continue
			}
			whole++
			states, _ := auto.Build(g)
			m := modelOf(g, states)
			if want := m.lists(m.derived(x.most)); text(l) != text(want) {
				t.Fatalf("%s: Of is %s, derived are %s", short(g), text(l), text(want))
			}
		}
	}
	if all < 1500 || whole < 700 || all-whole < 300 || len(kinds) < 900 {
		t.Errorf("%d grammars, %d of them with words of all symbols, %d kinds", all, whole, len(kinds))
	}
}

// P14.1, P14.2: strewn grammars, in both orders of their rules.
func TestStrewnGrammars(t *testing.T) {
	all, soon, states, kinds := 0, 0, 0, map[string]int{}
	for _, most := range []sample.Size{{Terms: 4, Nons: 4, Rules: 3, Right: 3}, {Terms: 3, Nons: 8, Rules: 3, Right: 2}, {Terms: 5, Nons: 4, Rules: 3, Right: api.MaxRight}} {
		for g := range sample.Strewn(400, most) {
			if gram.Check(g) != api.OK {
				continue
			}
			all++
			if agree(t, g) {
				soon++
			}
			slices.Reverse(g.Rules)
			agree(t, g)
			l, _ := look.Of(g)
			states = max(states, len(l))
			kinds[text(l)]++
		}
	}
	if all < 850 || soon < 700 || states < 40 || len(kinds) < 600 {
		t.Errorf("%d grammars with up to %d states, %d of them by all ways, %d kinds", all, states, soon, len(kinds))
	}
}

// P14.1: just so many states, and nearly so, and more than that.
func TestLimit(t *testing.T) {
	for _, n := range []int{3, 4, 100, 1000, api.MaxStates - 1, api.MaxStates} {
		g := sample.Sharp(n)
		states, _ := auto.Build(g)
		want := make([][]api.Look, n)
		for k, r := range append(slices.Clone(g.Rules), api.Rule{Right: []int{g.Start}}) {
			want[auto.Walk(states, 0, r.Right)] = []api.Look{{Rule: k, Terms: []int{0}}}
		}
		if l, e := look.Of(g); e != api.OK || text(l) != text(want) {
			t.Errorf("%d states: %s with the error %d, want %s", n, short(l), e, short(want))
		}
	}
	for _, n := range []int{api.MaxStates + 1, api.MaxStates + 2, api.MaxStates + 200} {
		if l, e := look.Of(sample.Sharp(n)); len(l) != 0 || e != api.ErrMany {
			t.Errorf("%d states: %d lists with the error %d", n, len(l), e)
		}
	}
}

// P1, P14.1: grammars whose states would be too many to be made at all.
func TestTooMany(t *testing.T) {
	for n := 1; n <= 7; n++ {
		agree(t, sample.Remembering(n))
	}
	for n := 11; n <= 16; n++ {
		if l, e := look.Of(sample.Remembering(n)); len(l) != 0 || e != api.ErrMany {
			t.Errorf("%d: %d lists with the error %d", n, len(l), e)
		}
	}
}

// large demands of a large grammar what the first model returns, and that it has so many lookaheads at least.
func large(t *testing.T, g api.Gram, least int) {
	t.Helper()
	states, _ := auto.Build(g)
	m := modelOf(g, states)
	l, e := look.Of(g)
	if want := m.lists(m.byRules()); e != api.OK || text(l) != text(want) {
		t.Errorf("%s: Of is %s %d, by rules %s", short(g), short(text(l)), e, short(text(want)))
	}
	follows(t, g, states, l)
	n := 0
	for _, looks := range l {
		for _, x := range looks {
			n += len(x.Terms)
		}
	}
	if n < least {
		t.Errorf("%s: %d lookaheads in %d states", short(g), n, len(states))
	}
	stop(t)
}

// crowded returns a grammar with one nonterminal that begins and ends each of its many rules but one.
func crowded() api.Gram {
	g := sample.Sized(api.MaxTerms, 1)
	g.Rules = []api.Rule{{Left: g.Start}}
	for i := range api.MaxRules - 1 {
		right := slices.Repeat([]int{1 + i%api.MaxTerms}, 1+i/api.MaxTerms)
		g.Rules = append(g.Rules, api.Rule{Left: g.Start, Right: slices.Concat([]int{g.Start}, right, []int{g.Start})})
	}
	return g
}

// circle returns a grammar of the greatest size in which a rule of each nonterminal ends with another one, the one that comes step
// numbers behind it, so that lookaheads go through all of them; in another rule a terminal of its own comes behind that. Both rules
// begin with the same symbols, so many that right sides have a certain length.
func circle(step, length int) api.Gram {
	g := sample.Sized(api.MaxTerms, api.MaxNons)
	for i := range api.MaxNons {
		non, next, term := g.Start+i, g.Start+(i+step)%api.MaxNons, 1+i%api.MaxTerms
		begin := slices.Repeat([]int{term}, length-2)
		g.Rules = append(g.Rules,
			api.Rule{Left: non, Right: slices.Concat(begin, []int{next})},
			api.Rule{Left: non, Right: slices.Concat(begin, []int{next, term})})
	}
	g.Rules = append(g.Rules, api.Rule{Left: g.Start})
	return g
}

// P1, P14.1, P14.2: grammars of the greatest size.
func TestMost(t *testing.T) {
	for right := 1; right < 4; right++ {
		large(t, sample.Around(right), 1)
	}
	large(t, sample.Wide(), 1)
	large(t, crowded(), api.MaxRules*api.MaxTerms)
	for _, step := range []int{1, 7, api.MaxNons - 1} {
		large(t, circle(step, 2), api.MaxNons*api.MaxTerms)
		large(t, circle(step, api.MaxRight), api.MaxNons*api.MaxTerms)
	}
}
