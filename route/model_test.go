package route_test

import (
	"cmp"
	"fmt"
	"slices"
	"strings"
	"testing"

	"conch/acts"
	"conch/api"
	"conch/auto"
	"conch/gram"
	"conch/least"
	"conch/live"
	"conch/route"
	"conch/sample"
)

// The models are the chapter once more by other means. The first one gives each state any path and replaces it by smaller ones until
// no transition leads to one. The second one goes all ways there are, the short ones first, and takes down where it comes for the
// first time. The third one is a parser that goes by the table of a grammar: while it reads the text of a state, it comes to have
// just the path on its stack.

// short renders a value, but not more than the beginning of a long one.
func short(value any) string {
	text := fmt.Sprint(value)
	return text[:min(len(text), 300)]
}

// stop ends a test that has failed: other grammars would tell the same again.
func stop(t *testing.T) {
	t.Helper()
	if t.Failed() {
		t.FailNow()
	}
}

// answers renders all that is told of the states.
func answers(r *route.Routes) string {
	var told strings.Builder
	for i := range r.Len() {
		way, walked := r.Way(i)
		text, read := r.Text(i)
		end, ended := r.Witness(api.Clash{State: i})
		more, longer := r.Witness(api.Clash{State: i, Term: 1})
		fmt.Fprint(&told, way, walked, text, read, end, ended, more, longer, ";")
	}
	return told.String()
}

// order compares two paths.
func order(a, b []int) int {
	return cmp.Or(cmp.Compare(len(a), len(b)), slices.Compare(a, b))
}

// replaced returns the paths of the first model.
func replaced(states []api.State) [][]int {
	paths := make([][]int, len(states))
	paths[0] = []int{}
	for more := true; more; {
		more = false
		for from := range states {
			for _, x := range states[from].Trans {
				if paths[from] == nil || paths[x.To] != nil && len(paths[x.To]) < len(paths[from])+1 {
					continue
				}
				if path := append(slices.Clone(paths[from]), x.Sym); paths[x.To] == nil || order(path, paths[x.To]) < 0 {
					paths[x.To] = path
					more = true
				}
			}
		}
	}
	return paths
}

// joined returns the minimal words of the symbols, each asked for by itself, and whether they are a text.
func joined(w *least.Words, way []int) ([]int, bool) {
	var text []int
	for _, s := range way {
		word, ok := w.Word(s)
		if !ok {
			return nil, false
		}
		text = append(text, word...)
	}
	if len(text) > api.MaxWord {
		return nil, false
	}
	return text, true
}

// agree demands of a grammar with a small enough automaton that the calls return what the first model does, and that paths lead where
// they are said to, and returns the paths.
func agree(t *testing.T, g api.Gram) *route.Routes {
	t.Helper()
	before := fmt.Sprint(g)
	r := of(t, g)
	states, _ := auto.Build(g)
	if r.Len() != len(states) {
		t.Fatalf("%s: %d states, want %d", short(g), r.Len(), len(states))
	}
	words := least.Of(g)
	for i, want := range replaced(states) {
		way, ok := r.Way(i)
		if !ok || !slices.Equal(way, want) {
			t.Fatalf("%s: the path to state %d is %s %t, want %s", short(g), i, short(way), ok, short(want))
		}
		reads(t, g, r, i, words, way)
		follows(t, r, states, i)
	}
	if after := fmt.Sprint(g); after != before {
		t.Errorf("%s was modified: %s", short(before), short(after))
	}
	stop(t)
	return r
}

// reads demands the text of state i, whose path is given, and its witnesses before the end of input, before each terminal and before
// numbers that are none.
func reads(t *testing.T, g api.Gram, r *route.Routes, i int, words *least.Words, way []int) {
	t.Helper()
	want, there := joined(words, way)
	text, ok := r.Text(i)
	if ok != there || !slices.Equal(text, want) {
		t.Errorf("%s: the text of state %d is %s %t, want %s %t", short(g), i, short(text), ok, short(want), there)
	}
	for term := -1; term <= gram.Top(g)+1; term++ {
		got, ok := r.Witness(api.Clash{State: i, Term: term})
		switch {
		case !there:
			missing(t, got, ok, "Witness", i, term)
		case term == 0:
			if !ok || !slices.Equal(got, want) {
				t.Errorf("%s: the witness in state %d before the end is %s %t, want %s", short(g), i, short(got), ok, short(want))
			}
		case !ok || len(got) != len(want)+1 || !slices.Equal(got[:len(want)], want) || got[len(want)] != term:
			t.Errorf("%s: the witness in state %d before %d is %s %t, want it behind %s", short(g), i, term, short(got), ok, short(want))
		}
	}
}

// P16.2: a path leads to its state, and a transition lengthens a path by at most one symbol.
func follows(t *testing.T, r *route.Routes, states []api.State, i int) {
	t.Helper()
	way, _ := r.Way(i)
	if at := auto.Walk(states, 0, way); at != i {
		t.Errorf("the path of state %d leads to %d", i, at)
	}
	for _, x := range states[i].Trans {
		if next, ok := r.Way(x.To); !ok || len(next) > len(way)+1 {
			t.Errorf("the path to state %d has %d symbols, that to state %d has %d", i, len(way), x.To, len(next))
		}
	}
}

// firsts returns the paths of the second model, for an automaton in which there are few ways of that length.
func firsts(states []api.State, g api.Gram, most int) [][]int {
	paths := make([][]int, len(states))
	for ways := [][]int{{}}; len(ways) > 0 && len(ways[0]) <= most; {
		var longer [][]int
		for _, way := range ways {
			i := auto.Walk(states, 0, way)
			if i == -1 {
				continue
			}
			if paths[i] == nil {
				paths[i] = way
			}
			for s := 1; s <= gram.Top(g); s++ {
				longer = append(longer, append(slices.Clone(way), s))
			}
		}
		ways = longer
	}
	return paths
}

// comes reports whether a parser that goes by a table, reads a text and then sees a terminal, comes to have just these symbols on its
// stack when it has read all of the text.
func comes(x api.Table, text []int, term int, way []int) bool {
	stack, states, at := []int{}, []int{0}, 0
	for range 10000 {
		if at == len(text) && slices.Equal(stack, way) {
			return true
		}
		next := term
		if at < len(text) {
			next = text[at]
		}
		a := acts.Act(x, states[len(states)-1], next)
		switch {
		case a.K == api.ActShift && at < len(text):
			stack, states, at = append(stack, next), append(states, a.N), at+1
		case a.K == api.ActReduce:
			n := len(stack) - len(x.Rules[a.N].Right)
			stack, states = append(stack[:n], x.Rules[a.N].Left), states[:n+1]
			states = append(states, acts.Goto(x, states[n], x.Rules[a.N].Left))
		default:
			return false
		}
	}
	return false
}

// parsed demands of a grammar without useless symbols that, before some terminal, the parser comes from each text to its path. It
// reports whether there is a parser.
func parsed(t *testing.T, g api.Gram, r *route.Routes) bool {
	t.Helper()
	x, e := acts.Of(g)
	if e != api.OK {
		return false
	}
	for i := range r.Len() {
		way, _ := r.Way(i)
		text, ok := r.Text(i)
		found := false
		for term := range len(g.Terms) + 1 {
			found = found || comes(x, text, term, way)
		}
		if !ok || !found {
			t.Errorf("%s: the text %v of state %d does not lead to %v", short(g), text, i, way)
		}
	}
	stop(t)
	return true
}

// tally counts what a test has had.
type tally struct {
	grammars, parsers, states, silent, longest, clashes int
	kinds                                               map[string]int
}

// count demands of a grammar all that the models say; the second one has ways up to that length.
func (y *tally) count(t *testing.T, g api.Gram, most int) {
	t.Helper()
	r := agree(t, g)
	states, _ := auto.Build(g)
	for i, want := range firsts(states, g, most) {
		way, _ := r.Way(i)
		if (len(way) <= most) != (want != nil) || want != nil && !slices.Equal(way, want) {
			t.Errorf("%s: the path to state %d is %v, want %v", short(g), i, way, want)
		}
		if _, ok := r.Text(i); !ok {
			y.silent++
		}
		y.longest = max(y.longest, len(way))
	}
	if e, _ := live.Check(g); e == api.OK && parsed(t, g, r) {
		y.parsers++
	}
	y.conflicts(t, g, r)
	y.grammars++
	y.states += r.Len()
	y.kinds[answers(r)]++
	stop(t)
}

// enough demands that there were at least so many grammars, parsers and kinds of answers, and something of all else.
func (y *tally) enough(t *testing.T, grammars, parsers, kinds int) {
	t.Helper()
	if y.grammars < grammars || y.parsers < parsers || len(y.kinds) < kinds || y.states < 5*grammars || y.silent < 1000 || y.longest < 6 || y.clashes < 5000 {
		t.Errorf("%d kinds, %s", len(y.kinds), short(*y))
	}
}

// conflicts demands the witness of each conflict: the text of its state, and its terminal.
func (y *tally) conflicts(t *testing.T, g api.Gram, r *route.Routes) {
	t.Helper()
	list, _ := acts.Clashes(g)
	for _, c := range list {
		want, there := r.Text(c.State)
		if there && c.Term != 0 {
			want = append(slices.Clone(want), c.Term)
		}
		if got, ok := r.Witness(c); ok != there || !slices.Equal(got, want) {
			t.Errorf("%s: the witness of %v is %v %t, want %v %t", short(g), c, got, ok, want, there)
		}
		y.clashes++
	}
}

// P16.1, P16.2: all subsets of some rules, with each nonterminal as Start.
func TestSmallGrammars(t *testing.T) {
	y := tally{kinds: map[string]int{}}
	for _, x := range []struct {
		most               int
		terms, nons, rules string
	}{
		{4, "", "s", "s : | s : s | s : s s"},
		{4, "", "s t", "s : | s : t | s : t t | t : | t : s | t : s t"},
		{5, "A", "s t", "s : | s : A | s : t | s : t s | t : | t : A | t : s | t : A t | t : t t"},
		{4, "A B", "s t u", "s : t u | s : s A | s : B | t : | t : u | t : t A | u : s | u : B | u :"},
		{5, "A B", "t s", "s : A s B | s : A t A | s : B | t : A s | t : A B | t : t t s"},
		{4, "A B C", "s t u", "s : A A t | s : B t | s : t C | t : u | t : A u | u : C | u : B t C | s : u s"},
	} {
		for g := range sample.Small(x.terms, x.nons, x.rules) {
			y.count(t, g, x.most)
		}
	}
	y.enough(t, 2500, 100, 500)
}

// P16.1, P16.2: strewn grammars, as they are and without their useless symbols.
func TestStrewn(t *testing.T) {
	y := tally{kinds: map[string]int{}}
	for g := range sample.Strewn(2000, sample.Size{Terms: 4, Nons: 4, Rules: 3, Right: 4}) {
		if gram.Check(g) != api.OK {
			continue
		}
		y.count(t, g, 3)
		if trimmed, ok := live.Trim(g); ok {
			y.count(t, trimmed, 3)
		}
	}
	y.enough(t, 2500, 600, 1500)
}

// P16.1, P16.2: grammars of the greatest size, with many transitions, many rules in a closure, and many states.
func TestLargeGrammars(t *testing.T) {
	for _, g := range []api.Gram{sample.Wide(), sample.Around(1), sample.Around(3), sample.Around(api.MaxRight - 1), sample.Remembering(1), sample.Remembering(7)} {
		agree(t, g)
	}
}

// cycles returns a grammar of nonterminals that follow each other around, one for each number below a length, all of them after t, which
// is that many terminals A. After k times t one of each length can come, so that the states tell k divided by the lengths.
func cycles(as int, lengths ...int) api.Gram {
	nons, rules := "s t", []string{"t : " + strings.Repeat("A ", as)}
	for _, n := range lengths {
		rules = append(rules, fmt.Sprintf("s : c%d_0", n), fmt.Sprintf("c%d_0 : B", n))
		for k := range n {
			nons += fmt.Sprintf(" c%d_%d", n, k)
			rules = append(rules, fmt.Sprintf("c%d_%d : t c%d_%d", n, k, n, (k+1)%n))
		}
	}
	return grammar("A B", nons, "s", rules...)
}

// P16.1, P16.2: paths with almost as many symbols as there are states, and texts of exactly MaxWord terminals and more.
func TestLongPaths(t *testing.T) {
	const longest = 7 * 11 * 25
	for _, as := range []int{0, 3, 4, 8} {
		g := cycles(as, 7, 11, 25)
		r := agree(t, g)
		states, _ := auto.Build(g)
		symbol := gram.Find(g, "t")
		for k := range longest + 1 {
			want := slices.Repeat([]int{symbol}, k)
			i := auto.Walk(states, 0, want)
			if way, ok := r.Way(i); !ok || !slices.Equal(way, want) {
				t.Fatalf("the path to state %d has %d symbols, want %d", i, len(way), k)
			}
			if text, ok := r.Text(i); ok != (k*as <= api.MaxWord) || ok && len(text) != k*as || !ok && len(text) != 0 {
				t.Errorf("the text of %d times %d symbols has %d, %t", k, as, len(text), ok)
			}
		}
	}
}
