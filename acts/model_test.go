package acts_test

import (
	"cmp"
	"fmt"
	"slices"
	"strings"
	"testing"

	"conch/acts"
	"conch/api"
	"conch/auto"
	"conch/gram"
	"conch/live"
	"conch/look"
	"conch/sample"
)

// The models are the chapter once more by other means. The first one throws all actions of all states on one heap and sorts it. The
// second one asks what a table is good for: a parser that goes by it accepts a sequence if and only if the grammar has it as a word,
// and what it has reduced derives it. The third one counts trees: a grammar with two trees for a word has a conflict.

// short renders a value, but not more than the beginning of a long one.
func short(value any) string {
	text := fmt.Sprint(value)
	return text[:min(len(text), 300)]
}

// text renders a table, with nil and empty lists alike.
func text(x api.Table) string {
	return fmt.Sprint(x)
}

// empty reports whether a table has nothing in it.
func empty(x api.Table) bool {
	return len(x.Rules) == 0 && len(x.Acts) == 0 && len(x.Goto) == 0 && x.Terms == 0 && x.Nons == 0
}

// stop ends a test that has failed: other grammars would tell the same again.
func stop(t *testing.T) {
	t.Helper()
	if t.Failed() {
		t.FailNow()
	}
}

// chance is an action that is possible somewhere.
type chance struct {
	state, term, rank int
	act               api.Act
}

// chances returns all that is possible in a valid grammar, in the order of the chapter.
func chances(g api.Gram) []chance {
	var list []chance
	states, _ := auto.Build(g)
	looks, _ := look.Of(g)
	for i := range states {
		for _, x := range looks[i] {
			for _, term := range x.Terms {
				c := chance{i, term, 2 + x.Rule, api.Act{K: api.ActReduce, N: x.Rule}}
				if x.Rule == len(g.Rules) {
					c.rank, c.act = 1, api.Act{K: api.ActAccept}
				}
				list = append(list, c)
			}
		}
		for _, x := range states[i].Trans {
			if gram.Term(g, x.Sym) {
				list = append(list, chance{i, x.Sym, 0, api.Act{K: api.ActShift, N: x.To}})
			}
		}
	}
	slices.SortFunc(list, func(a, b chance) int {
		return cmp.Or(cmp.Compare(a.state, b.state), cmp.Compare(a.term, b.term), cmp.Compare(a.rank, b.rank))
	})
	return list
}

// clashes returns the conflicts in such a list.
func clashes(list []chance) []api.Clash {
	var found []api.Clash
	for i, first := 1, 0; i < len(list); i++ {
		if a, b := list[first], list[i]; a.state == b.state && a.term == b.term {
			found = append(found, api.Clash{State: b.state, Term: b.term, A: a.act, B: b.act})
		} else {
			first = i
		}
	}
	return found
}

// table returns the table of a grammar for which such a list has no conflict.
func table(g api.Gram, list []chance) api.Table {
	x := api.Table{Rules: append(slices.Clone(g.Rules), api.Rule{Right: []int{g.Start}}), Terms: len(g.Terms), Nons: len(g.Nons)}
	states, _ := auto.Build(g)
	for i := range states {
		x.Acts = append(x.Acts, make([]api.Act, 1+len(g.Terms)))
		x.Goto = append(x.Goto, slices.Repeat([]int{-1}, len(g.Nons)))
		for _, y := range states[i].Trans {
			if gram.Non(g, y.Sym) {
				x.Goto[i][y.Sym-len(g.Terms)-1] = y.To
			}
		}
	}
	for _, c := range list {
		x.Acts[c.state][c.term] = c.act
	}
	return x
}

// agree demands of a valid grammar that Clashes and Of return what the first model does, and returns the table and whether there is
// one.
func agree(t *testing.T, g api.Gram) (api.Table, bool) {
	t.Helper()
	before := fmt.Sprint(g)
	list := chances(g)
	want := clashes(list)
	if l, e := acts.Clashes(g); e != api.OK || !slices.Equal(l, want) {
		t.Errorf("%s: the conflicts are %s with the error %d, want %s", short(g), short(l), e, short(want))
	}
	x, e := acts.Of(g)
	if len(want) > 0 {
		if e != api.ErrClash || !empty(x) {
			t.Errorf("%s: %s with the error %d in spite of %s", short(g), short(text(x)), e, short(want))
		}
	} else if y := table(g, list); e != api.OK || text(x) != text(y) {
		t.Errorf("%s: the table is %s with the error %d, want %s", short(g), short(text(x)), e, short(text(y)))
	} else if !acts.Right(x) {
		t.Errorf("%s: %s is not valid", short(g), short(text(x)))
	}
	if after := fmt.Sprint(g); after != before {
		t.Errorf("%s was modified: %s", short(before), short(after))
	}
	stop(t)
	return x, e == api.OK
}

// words returns the words of each symbol of at most most terminals, as texts of their numbers, with the number of trees of each, up
// to two. It goes by the height of trees, so that it comes to an end where a word has trees without limit.
func words(g api.Gram, most int) []map[string]int {
	old := make([]map[string]int, gram.Top(g)+1)
	for s := range old {
		old[s] = map[string]int{}
		if gram.Term(g, s) {
			old[s][string(rune(s))] = 1
		}
	}
	for {
		next := slices.Clone(old)
		for i := range g.Nons {
			next[len(g.Terms)+1+i] = map[string]int{}
		}
		for _, r := range g.Rules {
			for w, n := range line(old, r.Right, most) {
				next[r.Left][w] = min(next[r.Left][w]+n, 2)
			}
		}
		if fmt.Sprint(next) == fmt.Sprint(old) {
			return next
		}
		old = next
	}
}

// line returns the words of a sequence of symbols in the same way.
func line(sets []map[string]int, list []int, most int) map[string]int {
	found := map[string]int{"": 1}
	for _, s := range list {
		longer := map[string]int{}
		for w, n := range found {
			for v, m := range sets[s] {
				if len(w+v) <= most {
					longer[w+v] = min(longer[w+v]+n*m, 2)
				}
			}
		}
		found = longer
	}
	return found
}

// parse returns the rules that a parser reduces that goes by a table, and whether it accepts the word.
func parse(x api.Table, word string) ([]int, bool) {
	stack, reduced := []int{0}, []int{}
	for range 1000 {
		term := 0
		if word != "" {
			term = int(word[0])
		}
		a := acts.Act(x, stack[len(stack)-1], term)
		switch a.K {
		case api.ActShift:
			stack, word = append(stack, a.N), word[1:]
		case api.ActReduce:
			reduced = append(reduced, a.N)
			stack = stack[:len(stack)-len(x.Rules[a.N].Right)]
			stack = append(stack, acts.Goto(x, stack[len(stack)-1], x.Rules[a.N].Left))
		default:
			return reduced, a.K == api.ActAccept
		}
	}
	return nil, false
}

// derived returns what comes from Start if always the last nonterminal is replaced, by these rules from the last one on.
func derived(g api.Gram, rules []int) string {
	form := []int{g.Start}
	for _, k := range slices.Backward(rules) {
		at := len(form) - 1
		for at >= 0 && !gram.Non(g, form[at]) {
			at--
		}
		if at < 0 || form[at] != g.Rules[k].Left {
			return "no derivation"
		}
		form = slices.Concat(form[:at], g.Rules[k].Right, form[at+1:])
	}
	var list []string
	for _, s := range form {
		list = append(list, string(rune(s)))
	}
	return strings.Join(list, "")
}

// texts returns all sequences of at most most of n terminals.
func texts(n, most int) []string {
	list := []string{""}
	for i := 0; i < len(list) && n > 0; i++ {
		if len(list[i]) == most {
			break
		}
		for s := range n {
			list = append(list, list[i]+string(rune(1+s)))
		}
	}
	return list
}

// accepts demands of the table of a grammar that exactly the words are accepted, each by its one tree, and returns how many there
// are.
func accepts(t *testing.T, g api.Gram, x api.Table, most int) int {
	t.Helper()
	count, all := 0, words(g, most)[g.Start]
	for _, w := range texts(len(g.Terms), most) {
		reduced, ok := parse(x, w)
		if ok != (all[w] > 0) || ok && derived(g, reduced) != w {
			t.Errorf("%s: %q is accepted: %t, by the rules %v; it has %d trees", short(g), w, ok, reduced, all[w])
		}
		count += all[w]
	}
	stop(t)
	return count
}

// ambiguous reports whether a word of at most most terminals has two trees.
func ambiguous(g api.Gram, most int) bool {
	for _, n := range words(g, most)[g.Start] {
		if n > 1 {
			return true
		}
	}
	return false
}

// tally counts what grammars a test has had.
type tally struct {
	tables, clashing, twofold, words int
	kinds                            map[string]int
}

// count demands of a grammar all that the models say.
func (y *tally) count(t *testing.T, g api.Gram, most int) {
	t.Helper()
	x, ok := agree(t, g)
	twofold := ambiguous(g, most)
	if ok {
		y.tables++
		y.words += accepts(t, g, x, most)
		everywhere(t, x)
	} else {
		y.clashing++
	}
	if twofold {
		y.twofold++
	}
	if ok && twofold {
		t.Fatalf("%s has two trees for a word, and no conflict", short(g))
	}
	l, _ := acts.Clashes(g)
	y.kinds[fmt.Sprint(l, text(x))]++
}

// everywhere demands of a table that returns it, and of numbers around it nothing.
func everywhere(t *testing.T, x api.Table) {
	t.Helper()
	for i := -2; i < len(x.Acts)+2; i++ {
		for s := -2; s < x.Terms+x.Nons+3; s++ {
			act, to := api.Act{}, -1
			if here := i >= 0 && i < len(x.Acts); here && s >= 0 && s <= x.Terms {
				act = x.Acts[i][s]
			} else if here && s > x.Terms && s <= x.Terms+x.Nons {
				to = x.Goto[i][s-x.Terms-1]
			}
			if acts.Act(x, i, s) != act || acts.Goto(x, i, s) != to {
				t.Errorf("%s: in state %d with symbol %d %v and %d, want %v and %d", short(text(x)), i, s, acts.Act(x, i, s), acts.Goto(x, i, s), act, to)
			}
		}
	}
	stop(t)
}

// P15.1 to P15.3: all subsets of some rules, with each nonterminal as Start.
func TestSmallGrammars(t *testing.T) {
	y, whole := tally{kinds: map[string]int{}}, 0
	for _, x := range []struct {
		most               int
		terms, nons, rules string
	}{
		{0, "", "s", "s : | s : s | s : s s"},
		{0, "", "s t", "s : | s : t | s : t t | t : | t : s | t : s t"},
		{5, "A", "s t", "s : | s : A | s : t | s : t s | t : | t : A | t : s | t : A t | t : t t"},
		{5, "A B", "s t u", "s : t u | s : s A | s : B | t : | t : u | t : t A | u : s | u : B | u :"},
		{6, "A B", "t s", "s : A s B | s : A t A | s : B | t : A s | t : A B | t : t t s"},
		{4, "A B C", "s t u", "s : t u | s : A t | t : B t C | t : B | u : u A | u : C u | u : t B | s : C"},
	} {
		for g := range sample.Small(x.terms, x.nons, x.rules) {
			y.count(t, g, x.most)
			if e, _ := live.Check(g); e == api.OK {
				whole++
			}
		}
	}
	if y.tables < 1000 || y.clashing < 1000 || y.twofold < 800 || y.words < 2000 || len(y.kinds) < 1800 || whole < 600 {
		t.Errorf("%d tables for %d words, %d grammars with conflicts, %d with two trees, %d kinds, %d without useless symbols",
			y.tables, y.words, y.clashing, y.twofold, len(y.kinds), whole)
	}
}

// P15.1 to P15.3: strewn grammars, in both orders of their rules.
func TestStrewnGrammars(t *testing.T) {
	y := tally{kinds: map[string]int{}}
	for _, most := range []sample.Size{{Terms: 4, Nons: 4, Rules: 3, Right: 3}, {Terms: 3, Nons: 8, Rules: 3, Right: 2}, {Terms: 6, Nons: 4, Rules: 2, Right: 4}} {
		for g := range sample.Strewn(400, most) {
			if gram.Check(g) != api.OK {
				continue
			}
			y.count(t, g, 3)
			slices.Reverse(g.Rules)
			y.count(t, g, 3)
		}
	}
	if y.tables < 700 || y.clashing < 600 || y.twofold < 300 || y.words < 800 || len(y.kinds) < 1100 {
		t.Errorf("%d tables for %d words, %d grammars with conflicts, %d with two trees, %d kinds", y.tables, y.words, y.clashing, y.twofold, len(y.kinds))
	}
}

// P15.1, P15.3: just so many states, and nearly so, and more than that.
func TestLimit(t *testing.T) {
	for _, n := range []int{3, 4, 100, 1000, api.MaxStates - 1, api.MaxStates} {
		g := sample.Sharp(n)
		x, ok := agree(t, g)
		if !ok || len(x.Acts) != n || len(x.Goto) != n {
			t.Fatalf("%d states: %d and %d rows", n, len(x.Acts), len(x.Goto))
		}
		for k, r := range g.Rules {
			word := ""
			for _, s := range r.Right {
				word += string(rune(s))
			}
			reduced, ok := parse(x, word)
			if !ok || !slices.Equal(reduced, []int{k}) {
				t.Fatalf("%d states: rule %d is accepted: %t, by %v", n, k, ok, reduced)
			}
			if _, ok := parse(x, word+word); ok {
				t.Fatalf("%d states: rule %d is accepted twice", n, k)
			}
		}
	}
	for _, n := range []int{api.MaxStates + 1, api.MaxStates + 2, api.MaxStates + 200} {
		tooMany(t, sample.Sharp(n))
	}
}

// tooMany demands of a grammar with too many states that it has neither conflicts nor a table, even if it has conflicts.
func tooMany(t *testing.T, g api.Gram) {
	t.Helper()
	l, e := acts.Clashes(g)
	x, f := acts.Of(g)
	if len(l) != 0 || e != api.ErrMany || !empty(x) || f != api.ErrMany {
		t.Errorf("%s: %s with the error %d, and %s with the error %d", short(g), short(l), e, short(text(x)), f)
	}
}

// P1, P15.1: grammars whose states would be too many to be made at all; the same with a conflict in the first state.
func TestTooMany(t *testing.T) {
	for n := 1; n <= 7; n++ {
		if _, ok := agree(t, sample.Remembering(n)); !ok {
			t.Errorf("%d has a conflict", n)
		}
	}
	for n := 11; n <= 16; n++ {
		g := sample.Remembering(n)
		tooMany(t, g)
		g.Rules = append(g.Rules, api.Rule{Left: g.Start}, api.Rule{Left: g.Start, Right: []int{g.Start}})
		tooMany(t, g)
	}
}

// empties returns a grammar with n nonterminals, which all can be empty and begin with each other, so that a state has conflicts of
// many rules before many terminals.
func empties(n, right int) api.Gram {
	g := sample.Sized(n, n)
	for i := range n {
		list := append([]int{g.Start + (i+1)%n}, slices.Repeat([]int{g.Start}, right-2)...)
		g.Rules = append(g.Rules, api.Rule{Left: g.Start + i}, api.Rule{Left: g.Start + i, Right: append(list, 1+i)})
	}
	return g
}

// P1, P15.1: grammars of the greatest size, without conflicts and with many of them.
func TestMost(t *testing.T) {
	for _, right := range []int{1, 2, api.MaxRight - 1} {
		x, ok := agree(t, sample.Around(right))
		if !ok || len(x.Rules) != api.MaxRules+1 || x.Terms != api.MaxTerms || x.Nons != api.MaxNons {
			t.Errorf("Around(%d) has %d rules, %d terminals and %d nonterminals", right, len(x.Rules), x.Terms, x.Nons)
		}
	}
	if _, ok := agree(t, empties(api.MaxNons, 2)); !ok {
		t.Error("a conflict, though each of the empty rules has other terminals")
	}
	for _, x := range []struct {
		g     api.Gram
		least int
	}{{sample.Wide(), 30000}, {empties(2, 3), 4}, {empties(20, 3), 10000}, {empties(20, api.MaxRight), 50000}, {empties(60, 3), 200000}} {
		agree(t, x.g)
		if l, _ := acts.Clashes(x.g); len(l) < x.least {
			t.Errorf("%s: %d conflicts", short(x.g), len(l))
		}
	}
}
