package item_test

import (
	"fmt"
	"math"
	"slices"
	"testing"

	"conch/api"
	"conch/gram"
	"conch/item"
	"conch/sample"
)

// The model is the chapter once more by other means: it goes through all items of a grammar in order and asks of each whether
// it belongs to the result. What leads to what is a table of nonterminals, which is closed once.

// every returns all valid items of a valid grammar in order.
func every(g api.Gram) []api.Item {
	var list []api.Item
	for i, r := range g.Rules {
		for dot := range len(r.Right) + 1 {
			list = append(list, api.Item{Rule: i, Dot: dot})
		}
	}
	return append(list, api.Item{Rule: len(g.Rules)}, api.Item{Rule: len(g.Rules), Dot: 1})
}

// right returns the right side of a rule.
func right(g api.Gram, i int) []int {
	if i == len(g.Rules) {
		return []int{g.Start}
	}
	return g.Rules[i].Right
}

// leads returns a table of which symbol a word of which symbol can begin with, if no symbol is empty; each begins with itself.
func leads(g api.Gram) [][]bool {
	table := make([][]bool, gram.Top(g)+1)
	for s := range table {
		table[s] = make([]bool, len(table))
		table[s][s] = true
	}
	for _, r := range g.Rules {
		if len(r.Right) > 0 {
			table[r.Left][r.Right[0]] = true
		}
	}
	for by := range table {
		for from := range table {
			for to := range table {
				table[from][to] = table[from][to] || table[from][by] && table[by][to]
			}
		}
	}
	return table
}

// model answers for a grammar and a list of items. The list is kept as the set of its texts, so that nothing compares items as
// the program does.
type model struct {
	g     api.Gram
	all   []api.Item
	leads [][]bool
	held  map[string]bool
}

// of returns the model of a grammar.
func of(g api.Gram) *model {
	return &model{g: g, all: every(g), leads: leads(g)}
}

// hold makes a list the one that is asked about.
func (m *model) hold(l []api.Item) {
	m.held = map[string]bool{}
	for _, x := range l {
		m.held[fmt.Sprint(x)] = true
	}
}

// has reports whether the list holds an item.
func (m *model) has(i, dot int) bool {
	return m.held[fmt.Sprint(api.Item{Rule: i, Dot: dot})]
}

// pick returns the items for which a question is answered with true.
func (m *model) pick(ask func(i, dot int) bool) []api.Item {
	var list []api.Item
	for _, x := range m.all {
		if ask(x.Rule, x.Dot) {
			list = append(list, x)
		}
	}
	return list
}

// closure returns what Close must return.
func (m *model) closure() []api.Item {
	asked := make([]bool, gram.Top(m.g)+1)
	for _, x := range m.all {
		if list := right(m.g, x.Rule); x.Dot < len(list) && m.has(x.Rule, x.Dot) {
			for s, is := range m.leads[list[x.Dot]] {
				asked[s] = asked[s] || is
			}
		}
	}
	return m.pick(func(i, dot int) bool {
		return m.has(i, dot) || dot == 0 && i < len(m.g.Rules) && asked[m.g.Rules[i].Left]
	})
}

// step returns what Step must return.
func (m *model) step(s int) []api.Item {
	return m.pick(func(i, dot int) bool { return dot > 0 && right(m.g, i)[dot-1] == s && m.has(i, dot-1) })
}

// kernel returns what Kernel must return.
func (m *model) kernel() []api.Item {
	return m.pick(func(i, dot int) bool { return m.has(i, dot) && (dot != 0 || i == len(m.g.Rules)) })
}

// short renders a value, but not more than the beginning of a long one.
func short(value any) string {
	text := fmt.Sprint(value)
	return text[:min(len(text), 300)]
}

// holds demands of a list that the calls return what the model does, and leave the list as it is.
func (m *model) holds(t *testing.T, l []api.Item) {
	t.Helper()
	before := slices.Clone(l)
	m.hold(l)
	if got, want := item.Close(m.g, l), m.closure(); !slices.Equal(got, want) {
		t.Errorf("%s: Close(%s) is %v, want %v", short(m.g), short(l), got, want)
	}
	if got, want := item.Kernel(m.g, l), m.kernel(); !slices.Equal(got, want) {
		t.Errorf("%s: Kernel(%s) is %v, want %v", short(m.g), short(l), got, want)
	}
	for s := -1; s <= gram.Top(m.g)+1; s++ {
		if got, want := item.Step(m.g, l, s), m.step(s); !slices.Equal(got, want) {
			t.Errorf("%s: Step(%s, %d) is %v, want %v", short(m.g), short(l), s, got, want)
		}
	}
	if !slices.Equal(l, before) {
		t.Errorf("%s: %s was modified: %s", short(m.g), short(before), short(l))
	}
	stop(t)
}

// stop ends a test that has failed: other lists would tell the same again.
func stop(t *testing.T) {
	t.Helper()
	if t.Failed() {
		t.FailNow()
	}
}

// settled demands that a closure is its own closure.
func (m *model) settled(t *testing.T, l []api.Item) []api.Item {
	t.Helper()
	c := item.Close(m.g, l)
	if again := item.Close(m.g, c); !slices.Equal(again, c) {
		t.Errorf("%s: Close(%s) is %v, its own closure %v", short(m.g), short(l), c, again)
	}
	return c
}

// returns demands that the steps of a list lead to closures that their kernels lead back to.
func (m *model) returns(t *testing.T, l []api.Item) {
	t.Helper()
	for s := -1; s <= gram.Top(m.g)+1; s++ {
		k := item.Step(m.g, l, s)
		c := m.settled(t, k)
		if back := item.Kernel(m.g, c); !slices.Equal(back, k) {
			t.Errorf("%s: Step(%s, %d) is %v, the kernel of its closure %v", short(m.g), short(l), s, k, back)
		}
		if again := item.Close(m.g, item.Kernel(m.g, c)); !slices.Equal(again, c) {
			t.Errorf("%s: the closure %v has the kernel of %v", short(m.g), c, again)
		}
	}
	stop(t)
}

// twisted returns a list backwards, with each item twice and with some that are not valid between them.
func twisted(g api.Gram, l []api.Item) []api.Item {
	var list []api.Item
	for _, x := range l {
		list = append(list, x, api.Item{Rule: x.Rule, Dot: -1 - x.Dot}, api.Item{Rule: x.Rule, Dot: x.Dot + api.MaxRight + 1})
		list = append(list, api.Item{Rule: len(g.Rules) + 1 + x.Rule, Dot: x.Dot}, api.Item{Rule: -1 - x.Rule, Dot: x.Dot}, x)
	}
	slices.Reverse(list)
	return append(list, l...)
}

// agree demands of a list and of what its items lead to the answers of the model, and of each item what stands after its dot.
func agree(t *testing.T, g api.Gram, l []api.Item) {
	t.Helper()
	m := of(g)
	m.places(t)
	m.holds(t, l)
	m.holds(t, twisted(g, l))
	m.returns(t, l)
	m.holds(t, m.settled(t, l))
	m.returns(t, m.settled(t, twisted(g, l)))
}

// places demands of all items what stands after their dots, and of what is none that it is none.
func (m *model) places(t *testing.T) {
	t.Helper()
	valid := 0
	for i := -2; i <= len(m.g.Rules)+2; i++ {
		for dot := -2; dot <= api.MaxRight+2; dot++ {
			x := api.Item{Rule: i, Dot: dot}
			is, after := slices.Contains(m.all, x), 0
			if is {
				valid++
				after = append(slices.Clone(right(m.g, i)), 0)[dot]
			}
			if s, ok := item.Behind(m.g, x); item.Right(m.g, x) != is || s != after || ok != (after != 0) {
				t.Errorf("%s: %v is %t with %d %t, want %t with %d", short(m.g), x, item.Right(m.g, x), s, ok, is, after)
			}
		}
	}
	if valid != len(m.all) {
		t.Errorf("%s: %d valid items, want %d", short(m.g), valid, len(m.all))
	}
	stop(t)
}

// follow goes through all lists that steps and closures lead to from Begin, demands of each what agree does, and returns how
// many there are.
func follow(t *testing.T, g api.Gram) int {
	t.Helper()
	m := of(g)
	work := [][]api.Item{item.Begin(g)}
	seen := map[string]bool{fmt.Sprint(work[0]): true}
	for at := 0; at < len(work); at++ {
		c := m.settled(t, work[at])
		m.holds(t, work[at])
		m.holds(t, c)
		m.returns(t, c)
		if back := item.Close(g, item.Kernel(g, c)); !slices.Equal(back, c) {
			t.Errorf("%s: the closure %v has the kernel of %v", short(g), c, back)
		}
		for s := range gram.Top(g) + 1 {
			if k := item.Step(g, c, s); len(k) > 0 && !seen[fmt.Sprint(k)] {
				seen[fmt.Sprint(k)] = true
				work = append(work, k)
			}
		}
	}
	return len(work)
}

// P12.1 to P12.3: all lists of the items of small grammars.
func TestAllLists(t *testing.T) {
	for _, g := range []api.Gram{
		grammar("", "s", "s", "s :"),
		grammar("A", "s", "s", "s : A s", "s :", "s : s"),
		grammar("A B", "s t", "s", "s : t A", "t : B", "t : s"),
		grammar("A", "t s", "s", "s : t t", "t :", "t : A"),
	} {
		m := of(g)
		for bits := range 1 << len(m.all) {
			var l []api.Item
			for i, x := range m.all {
				if bits>>i&1 != 0 {
					l = append(l, x)
				}
			}
			m.holds(t, l)
			m.returns(t, l)
		}
		agree(t, g, m.all)
	}
}

// P12.1 to P12.3: all subsets of some rules, and what can be reached from Begin.
func TestSmallGrammars(t *testing.T) {
	grammars, lists := 0, 0
	for _, x := range []struct{ terms, nons, rules string }{
		{"", "s", "s : | s : s | s : s s"},
		{"A", "s t", "s : | s : A | s : t | s : t s | t : | t : A | t : s | t : A t | t : t t"},
		{"A B", "s t u", "s : t u | s : s A | s : B | t : | t : u | t : t A | u : s | u : B | u :"},
	} {
		for g := range sample.Small(x.terms, x.nons, x.rules) {
			grammars++
			lists += follow(t, g)
		}
	}
	if grammars < 500 || lists < 4*grammars {
		t.Errorf("%d grammars with %d lists", grammars, lists)
	}
}

// P12.1 to P12.3: strewn grammars with any list of their items.
func TestStrewnGrammars(t *testing.T) {
	grammars := 0
	for _, most := range []sample.Size{{Terms: 4, Nons: 4, Rules: 3, Right: 3}, {Terms: 3, Nons: 8, Rules: 3, Right: 2}, {Terms: 5, Nons: 4, Rules: 3, Right: api.MaxRight}} {
		for g := range sample.Strewn(150, most) {
			if gram.Check(g) != api.OK {
				continue
			}
			grammars++
			all := every(g)
			agree(t, g, all)
			for step := 2; step < 7; step++ {
				var l []api.Item
				for i := step - 1; i < len(all); i += step {
					l = append(l, all[i])
				}
				m := of(g)
				m.holds(t, l)
				m.holds(t, twisted(g, l))
				m.returns(t, m.settled(t, l))
			}
		}
	}
	if grammars < 300 {
		t.Errorf("%d grammars", grammars)
	}
}

// wide returns a grammar of the greatest size in every respect: in each of its rules a nonterminal comes first, or nothing.
func wide() api.Gram {
	g := sized(api.MaxTerms, api.MaxNons)
	for i := range api.MaxRules {
		var list []int
		for k := range api.MaxRight * min(i, 1) {
			list = append(list, 1+(i*11+k*k*7+i/api.MaxNons)%(api.MaxTerms+api.MaxNons))
		}
		if i > 0 {
			list[0] = g.Start + (i+1)%api.MaxNons
		}
		g.Rules = append(g.Rules, api.Rule{Left: g.Start + i%api.MaxNons, Right: list})
	}
	return g
}

// P12.1 to P12.3: a grammar of the greatest size, in which each nonterminal leads to the next one and the last one to the first.
func TestMost(t *testing.T) {
	g := wide()
	for _, start := range []int{0, 1, api.MaxNons - 1} {
		g.Start = api.MaxTerms + 1 + start
		m, c := of(g), item.Close(g, item.Begin(g))
		if len(c) != api.MaxRules+1 || c[0] != (api.Item{}) || c[api.MaxRules] != (api.Item{Rule: api.MaxRules}) {
			t.Errorf("the closure of Begin has %d items", len(c))
		}
		m.holds(t, item.Begin(g))
		m.holds(t, c)
		m.returns(t, c)
	}
	m := of(g)
	m.places(t)
	m.holds(t, twisted(g, m.all))
}

// P12.1: a closure that goes through all nonterminals one by one, with numbers that rise and fall.
func TestChain(t *testing.T) {
	for _, down := range []bool{false, true} {
		g := sized(1, api.MaxNons)
		for i := range api.MaxNons {
			r := api.Rule{Left: 2 + i}
			if i < api.MaxNons-1 {
				r.Right = []int{3 + i, 1}
			}
			g.Rules = append(g.Rules, r)
		}
		if down {
			slices.Reverse(g.Rules)
		}
		for i, r := range g.Rules {
			c := item.Close(g, []api.Item{{Rule: i}})
			if want := api.MaxNons - (r.Left - 2); len(c) != want {
				t.Errorf("down %t: the closure of rule %d has %d items, want %d", down, i, len(c), want)
			}
		}
		agree(t, g, item.Begin(g))
	}
}

// P1, P12.1, P12.2: a long list with few items in it, most of which are not valid.
func TestLongList(t *testing.T) {
	g := plain()
	var l []api.Item
	for i := range 1 << 19 {
		l = append(l, api.Item{Rule: i * 7 % 13, Dot: i % 6}, api.Item{Rule: -i, Dot: i}, api.Item{Rule: i, Dot: math.MaxInt - i})
	}
	m := of(g)
	m.hold(every(g))
	if got := item.Close(g, l); !slices.Equal(got, m.closure()) {
		t.Errorf("Close is %v", got)
	}
	if got := item.Kernel(g, l); !slices.Equal(got, m.kernel()) {
		t.Errorf("Kernel is %v", got)
	}
	for s := range gram.Top(g) + 1 {
		if got := item.Step(g, l, s); !slices.Equal(got, m.step(s)) {
			t.Errorf("Step by %d is %v", s, got)
		}
	}
}
