package auto_test

import (
	"fmt"
	"math"
	"slices"
	"testing"

	"conch/api"
	"conch/auto"
	"conch/gram"
	"conch/item"
	"conch/sample"
)

// The model is the chapter once more by other means: a state is what is reached by a way from the beginning, each way is gone
// from its beginning on, and a state is known by all items of its closure. The ways are tried by their lengths and then by their
// symbols, which is the order in which the states get their numbers.

// short renders a value, but not more than the beginning of a long one.
func short(value any) string {
	text := fmt.Sprint(value)
	return text[:min(len(text), 300)]
}

// text renders states.
func text(l []api.State) string {
	return fmt.Sprint(l)
}

// stop ends a test that has failed: other grammars would tell the same again.
func stop(t *testing.T) {
	t.Helper()
	if t.Failed() {
		t.FailNow()
	}
}

// model answers for a grammar.
type model struct {
	rules   []api.Rule // with the augmented rule behind all
	top     int
	numbers map[string]int
	ways    [][]int
}

// set holds for each rule the places of the dot as bits.
type set []uint

// of returns the model of a valid grammar.
func of(g api.Gram) *model {
	m := &model{rules: append(slices.Clone(g.Rules), api.Rule{Right: []int{g.Start}}), top: gram.Top(g), numbers: map[string]int{}}
	m.note(nil)
	for i := 0; i < len(m.ways); i++ {
		for s := range m.top {
			m.note(append(slices.Clone(m.ways[i]), s+1))
		}
	}
	return m
}

// note gives the next number to what a way reaches, if nothing before has reached it.
func (m *model) note(way []int) {
	if reached := m.run(way); m.at(reached) == -1 && !reached.empty() {
		m.numbers[fmt.Sprint(reached)] = len(m.ways)
		m.ways = append(m.ways, way)
	}
}

// at returns the number of what is reached, or -1.
func (m *model) at(reached set) int {
	if i, ok := m.numbers[fmt.Sprint(reached)]; ok {
		return i
	}
	return -1
}

// empty reports whether nothing is in the set.
func (x set) empty() bool {
	return !slices.ContainsFunc(x, func(bits uint) bool { return bits != 0 })
}

// run returns all items, with those of the closures, that a way reaches from the beginning.
func (m *model) run(way []int) set {
	reached := make(set, len(m.rules))
	reached[len(m.rules)-1] = 1
	m.close(reached)
	for _, s := range way {
		next := make(set, len(m.rules))
		for i, r := range m.rules {
			for dot, symbol := range r.Right {
				if symbol == s && reached[i]>>dot&1 != 0 {
					next[i] |= 2 << dot
				}
			}
		}
		m.close(next)
		reached = next
	}
	return reached
}

// close adds the beginnings of rules until nothing changes.
func (m *model) close(x set) {
	for more := true; more; {
		more = false
		for i, r := range m.rules[:len(m.rules)-1] {
			if x[i]&1 == 0 && m.wanted(x, r.Left) {
				x[i] |= 1
				more = true
			}
		}
	}
}

// wanted reports whether a symbol stands after a dot.
func (m *model) wanted(x set, s int) bool {
	for i, r := range m.rules {
		for dot, symbol := range r.Right {
			if symbol == s && x[i]>>dot&1 != 0 {
				return true
			}
		}
	}
	return false
}

// states returns what Build must return.
func (m *model) states() []api.State {
	var list []api.State
	for _, way := range m.ways {
		var x api.State
		for i, bits := range m.run(way) {
			for dot := range api.MaxRight + 1 {
				if bits>>dot&1 != 0 && (dot > 0 || i == len(m.rules)-1) {
					x.Items = append(x.Items, api.Item{Rule: i, Dot: dot})
				}
			}
		}
		for s := range m.top {
			if to := m.at(m.run(append(slices.Clone(way), s+1))); to != -1 {
				x.Trans = append(x.Trans, api.Trans{Sym: s + 1, To: to})
			}
		}
		list = append(list, x)
	}
	return list
}

// holds demands of a grammar with few states that the calls return what the model does.
func holds(t *testing.T, g api.Gram) {
	t.Helper()
	before := fmt.Sprint(g)
	m := of(g)
	l, e := auto.Build(g)
	if want := m.states(); e != api.OK || text(l) != text(want) {
		t.Errorf("%s: Build is %s %d, want %s", short(g), text(l), e, text(want))
	}
	stop(t)
	follows(t, g, l)
	m.walks(t, g, l)
	if after := fmt.Sprint(g); after != before {
		t.Errorf("%s was modified: %s", short(before), short(after))
	}
	stop(t)
}

// walks demands of the ways to all states, with two symbols behind them, that they lead where the model's do.
func (m *model) walks(t *testing.T, g api.Gram, l []api.State) {
	t.Helper()
	for i, way := range m.ways {
		if at := auto.Walk(l, 0, way); at != i {
			t.Errorf("%s: Walk(0, %v) is %d, want %d", short(g), way, at, i)
		}
		for s := -1; s <= m.top+1; s++ {
			next := append(slices.Clone(way), s)
			want := m.at(m.run(next))
			if to, at := auto.Goto(l, i, s), auto.Walk(l, 0, next); to != want || at != want {
				t.Errorf("%s: Goto(%d, %d) is %d, Walk(0, %v) is %d, want %d", short(g), i, s, to, next, at, want)
			}
			for last := -1; last <= m.top+1; last++ {
				behind := append(slices.Clone(next), last)
				if at, want := auto.Walk(l, i, []int{s, last}), m.at(m.run(behind)); at != want || auto.Walk(l, 0, behind) != want {
					t.Errorf("%s: Walk(%d, %d %d) is %d, want %d", short(g), i, s, last, at, want)
				}
			}
		}
	}
}

// follows demands of an automaton what the chapter says itself, and what follows from that.
func follows(t *testing.T, g api.Gram, l []api.State) {
	t.Helper()
	by := make([]int, len(l))
	for i, x := range l {
		if i > 0 && by[i] == 0 {
			t.Errorf("%s: no smaller state leads to state %d", short(g), i)
		}
		if k := auto.Find(l, x.Items); k != i {
			t.Errorf("%s: Find of the items of state %d is %d", short(g), i, k)
		}
		if k := auto.Find(l, append(slices.Clone(x.Items), api.Item{Rule: math.MaxInt})); k != -1 {
			t.Errorf("%s: Find of more items than those of state %d is %d", short(g), i, k)
		}
		last := 0
		for _, y := range x.Trans {
			if y.Sym <= last || y.To < 0 || y.To >= len(l) || by[y.To] != 0 && by[y.To] != y.Sym {
				t.Errorf("%s: state %d has the transition %v, another one into that state is by %d", short(g), i, y, by[y.To])
				t.FailNow()
			}
			last, by[y.To] = y.Sym, y.Sym
		}
	}
	if by[0] != 0 {
		t.Errorf("%s: %d leads to state 0", short(g), by[0])
	}
	if k := auto.Find(l, nil); k != -1 {
		t.Errorf("%s: state %d has no items", short(g), k)
	}
	stop(t)
}

// literal demands of every so many states that their transitions are what item makes of their items, which is the chapter as it
// is written, and of all that they are numbered as they are reached. It does for grammars of all sizes.
func literal(t *testing.T, g api.Gram, l []api.State, every int) {
	t.Helper()
	numbers := map[string]int{}
	for i, x := range l {
		numbers[fmt.Sprint(x.Items)] = i
	}
	if !slices.Equal(l[0].Items, item.Begin(g)) {
		t.Errorf("%s: state 0 has %v", short(g), l[0].Items)
	}
	next := 1
	for i, x := range l {
		if i%every == 0 {
			demand(t, g, x, numbers)
		}
		for _, y := range x.Trans {
			if y.To > next {
				t.Errorf("%s: state %d leads to %d, the next number is %d", short(g), i, y.To, next)
			}
			next = max(next, y.To+1)
		}
		stop(t)
	}
	if len(numbers) != len(l) || next != len(l) {
		t.Errorf("%s: %d states with %d different kernels, %d of them reached", short(g), len(l), len(numbers), next)
	}
	follows(t, g, l)
}

// demand demands of a state what item makes of its items, by the numbers of the states.
func demand(t *testing.T, g api.Gram, x api.State, numbers map[string]int) {
	t.Helper()
	c := item.Close(g, x.Items)
	if !slices.Equal(item.Kernel(g, c), x.Items) {
		t.Errorf("%s: a state has the items %v", short(g), x.Items)
	}
	var want []api.Trans
	for _, s := range symbolsBehind(g, c) {
		to, ok := numbers[fmt.Sprint(item.Step(g, c, s))]
		if !ok {
			t.Errorf("%s: no state for what %v becomes by the symbol %d", short(g), c, s)
		}
		want = append(want, api.Trans{Sym: s, To: to})
	}
	if !slices.Equal(x.Trans, want) {
		t.Errorf("%s: the items %v have the transitions %v, want %v", short(g), x.Items, x.Trans, want)
	}
}

// symbolsBehind returns the symbols that stand after the dots of some items, in increasing order.
func symbolsBehind(g api.Gram, l []api.Item) []int {
	var list []int
	for _, x := range l {
		if r, _ := gram.Rule(g, x.Rule); x.Dot < len(r.Right) {
			list = append(list, r.Right[x.Dot])
		}
	}
	slices.Sort(list)
	return slices.Compact(list)
}

// P13.1, P13.2: all subsets of some rules.
func TestSmallGrammars(t *testing.T) {
	grammars, states := 0, 0
	for _, x := range []struct{ terms, nons, rules string }{
		{"", "s", "s : | s : s | s : s s"},
		{"A", "s t", "s : | s : A | s : t | s : t s | t : | t : A | t : s | t : A t | t : t t"},
		{"A B", "s t u", "s : t u | s : s A | s : B | t : | t : u | t : t A | u : s | u : B | u :"},
		{"A B", "t s", "s : A s B | s : A t A | s : B | t : A s | t : A B | t : t t s"},
	} {
		for g := range sample.Small(x.terms, x.nons, x.rules) {
			holds(t, g)
			l, _ := auto.Build(g)
			grammars++
			states += len(l)
		}
	}
	if grammars < 1500 || states < 4*grammars {
		t.Errorf("%d grammars with %d states", grammars, states)
	}
}

// P13.1, P13.2: strewn grammars.
func TestStrewnGrammars(t *testing.T) {
	grammars, states := 0, 0
	for _, most := range []sample.Size{{Terms: 4, Nons: 4, Rules: 3, Right: 3}, {Terms: 3, Nons: 8, Rules: 3, Right: 2}, {Terms: 5, Nons: 4, Rules: 3, Right: api.MaxRight}} {
		for g := range sample.Strewn(150, most) {
			if gram.Check(g) != api.OK {
				continue
			}
			l, e := auto.Build(g)
			if e != api.OK {
				t.Fatalf("%s: %d", short(g), e)
			}
			literal(t, g, l, 1)
			if len(l) < 30 {
				holds(t, g)
			}
			grammars++
			states = max(states, len(l))
		}
	}
	if grammars < 300 || states < 30 {
		t.Errorf("%d grammars with up to %d states", grammars, states)
	}
}

// P13.1: just so many states, and nearly so.
func TestLimit(t *testing.T) {
	for _, n := range []int{3, 4, 100, 1000, api.MaxStates - 1, api.MaxStates} {
		g := sample.Sharp(n)
		l, e := auto.Build(g)
		if e != api.OK || len(l) != n {
			t.Fatalf("%d states and error %d, want %d", len(l), e, n)
		}
		for i, r := range g.Rules {
			at := auto.Walk(l, 0, r.Right)
			if at == -1 || !slices.Equal(l[at].Items, []api.Item{{Rule: i, Dot: len(r.Right)}}) {
				t.Errorf("rule %d leads to state %d", i, at)
			}
			if next := auto.Walk(l, 0, append(slices.Clone(r.Right), 1)); next != -1 {
				t.Errorf("behind rule %d comes state %d", i, next)
			}
		}
		literal(t, g, l, 19)
	}
	for _, n := range []int{api.MaxStates + 1, api.MaxStates + 2, api.MaxStates + 200} {
		if l, e := auto.Build(sample.Sharp(n)); len(l) != 0 || e != api.ErrMany {
			t.Errorf("%d states: %d with the error %d", n, len(l), e)
		}
	}
}

// P1, P13.1: grammars whose states would be too many to be made at all.
func TestTooMany(t *testing.T) {
	for n := 1; n <= 7; n++ {
		g := sample.Remembering(n)
		l, e := auto.Build(g)
		if e != api.OK || len(l) < 1<<n {
			t.Fatalf("%d: %d states with the error %d", n, len(l), e)
		}
		if n < 5 {
			holds(t, g)
		}
		literal(t, g, l, 1)
	}
	for n := 11; n <= 16; n++ {
		if l, e := auto.Build(sample.Remembering(n)); len(l) != 0 || e != api.ErrMany {
			t.Errorf("%d: %d states with the error %d", n, len(l), e)
		}
	}
}

// P1, P13.1, P13.2: grammars of the greatest size.
func TestMost(t *testing.T) {
	for right := 1; right < 4; right++ {
		g := sample.Around(right)
		l, e := auto.Build(g)
		if e != api.OK || len(l[0].Trans) != api.MaxNons || len(l) < api.MaxRules {
			t.Fatalf("%d: %d states with the error %d, %d transitions", right, len(l), e, len(l[0].Trans))
		}
		literal(t, g, l, 10)
	}
}

// P1, P13.1: a grammar of the greatest size in which almost every state leads by every symbol to another one.
func TestWide(t *testing.T) {
	g := sample.Wide()
	l, e := auto.Build(g)
	if e != api.OK || len(l) < api.MaxStates/2 {
		t.Fatalf("%d states with the error %d", len(l), e)
	}
	literal(t, g, l, 200)
}
