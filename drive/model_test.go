package drive_test

import (
	"fmt"
	"slices"
	"testing"

	"conch/acts"
	"conch/api"
	"conch/auto"
	"conch/drive"
	"conch/gram"
	"conch/live"
	"conch/sample"
)

// There are two models. The first one is the chapter once more by other means: a parser that is never changed, but returns another
// one after each step, and of which each state carries the text of its node. The second one knows nothing of tables: it reads the rules
// of a grammar by the method of Earley, which tells the words of all grammars and, without useless symbols, what can come.

// short renders a value, but not more than the beginning of a long one.
func short(value any) string {
	text := fmt.Sprint(value)
	return text[:min(len(text), 300)]
}

// stop ends a test that has failed: other grammars would tell the same again.
func stop(t *testing.T) {
	t.Helper()
	if t.Failed() {
		t.FailNow()
	}
}

// model is a parser. It has a frame for each state, the topmost one first.
type model struct {
	top   *frame
	steps int
	over  bool
}

// frame is a state, the node that belongs to it, and what is below it.
type frame struct {
	state int
	node  string
	below *frame
}

// most is more than the reductions that any of the grammars here makes before one terminal.
const most = 1000

// step makes the next step before a terminal and returns its action.
func (m model) step(x api.Table, g api.Gram, term int) (model, int) {
	a := acts.Act(x, m.top.state, term)
	switch a.K {
	case api.ActShift:
		m.top = &frame{a.N, gram.Name(g, term), m.top}
		m.steps++
	case api.ActReduce:
		r := g.Rules[a.N]
		text := ")"
		for range r.Right {
			text = " " + m.top.node + text
			m.top = m.top.below
		}
		m.top = &frame{acts.Goto(x, m.top.state, r.Left), "(" + gram.Name(g, r.Left) + text, m.top}
		m.steps++
	case api.ActAccept:
		m.over = true
	}
	return m, a.K
}

// read makes all steps up to the one for a terminal, and reports whether there is one.
func (m model) read(t *testing.T, x api.Table, g api.Gram, term int) (model, bool) {
	t.Helper()
	for range most {
		next, kind := m.step(x, g, term)
		if kind == api.ActShift || kind == api.ActAccept {
			return next, !m.over
		}
		if kind == api.ActNone {
			return m, false
		}
		m = next
	}
	t.Fatalf("%s: there is no end of reductions before %d", short(g), term)
	return m, false
}

// lists returns the states and the nodes from the lowest ones on.
func (m model) lists() (states []int, nodes []string) {
	for f := m.top; f != nil; f = f.below {
		states = append(states, f.state)
		if f.below != nil {
			nodes = append(nodes, f.node)
		}
	}
	slices.Reverse(states)
	slices.Reverse(nodes)
	return states, nodes
}

// spot is an item of the second model: a rule, a dot, and where it began.
type spot struct {
	rule, dot, from int
}

// chart holds, for each place of an input, what can be read there.
type chart [][]spot

// after returns the symbol behind the dot, or -1 behind the last one.
func (s spot) after(g api.Gram) int {
	r, _ := gram.Rule(g, s.rule)
	if s.dot == len(r.Right) {
		return -1
	}
	return r.Right[s.dot]
}

// begin returns the chart of an empty input.
func begin(g api.Gram) chart {
	return chart{{{len(g.Rules), 0, 0}}}.closed(g)
}

// add returns a list with a spot, if it is not there yet.
func add(list []spot, s spot) []spot {
	if slices.Contains(list, s) {
		return list
	}
	return append(list, s)
}

// closed adds to the last place what follows without a terminal, until there is nothing more.
func (c chart) closed(g api.Gram) chart {
	last := len(c) - 1
	for count := -1; count != len(c[last]); {
		count = len(c[last])
		for _, s := range c[last] {
			if next := s.after(g); next != -1 {
				for _, rule := range gram.Of(g, next) {
					c[last] = add(c[last], spot{rule, 0, last})
				}
				continue
			}
			left := 0
			if s.rule < len(g.Rules) {
				left = g.Rules[s.rule].Left
			}
			for _, up := range c[s.from] {
				if left != 0 && up.after(g) == left {
					c[last] = add(c[last], spot{up.rule, up.dot + 1, up.from})
				}
			}
		}
	}
	return c
}

// then returns the chart of the input with one more terminal.
func (c chart) then(g api.Gram, term int) chart {
	var list []spot
	for _, s := range c[len(c)-1] {
		if s.after(g) == term {
			list = append(list, spot{s.rule, s.dot + 1, s.from})
		}
	}
	return append(slices.Clone(c), list).closed(g)
}

// next reports whether a terminal, or 0 for the end of input, can come.
func (c chart) next(g api.Gram, term int) bool {
	return slices.ContainsFunc(c[len(c)-1], func(s spot) bool {
		return term == 0 && s == spot{len(g.Rules), 1, 0} || term != 0 && s.after(g) == term
	})
}

// trial is what all parsers of a grammar are held against, and how many there were.
type trial struct {
	g                              api.Gram
	table                          api.Table
	states                         []api.State
	whole                          bool // whether it has no useless symbols
	inputs, words, refused, vainly int
}

// agree demands of a parser that it is as the models are.
func (y *trial) agree(t *testing.T, x *drive.Engine, m model, c chart) {
	t.Helper()
	states, texts := m.lists()
	roots := x.Tree().Roots()
	if !slices.Equal(x.Stack(), states) || x.Steps() != m.steps || x.Tree().Len() != m.steps || len(roots) != len(texts) {
		t.Fatalf("%s: the states are %v after %d steps, with the nodes %v, want %v after %d", short(y.g), x.Stack(), x.Steps(), roots, states, m.steps)
	}
	var way []int
	for k, root := range roots {
		if text := x.Tree().Show(y.g, root); text != texts[k] || !x.Tree().Check(y.g, root) {
			t.Errorf("%s: node %d is %s, want %s", short(y.g), root, text, texts[k])
		}
		n, _ := x.Tree().Node(root)
		way = append(way, n.Sym)
		if to := auto.Walk(y.states, 0, way); to != states[k+1] {
			t.Errorf("%s: %v leads to state %d, not to %d", short(y.g), way, to, states[k+1])
		}
	}
	var expected []int
	for term := range len(y.g.Terms) + 1 {
		_, ok := m.read(t, y.table, y.g, term)
		if ok {
			expected = append(expected, term)
		}
		if x.Probe(term) != ok {
			t.Errorf("%s: in the states %v %d can come: %t", short(y.g), states, term, !ok)
		}
		if real := c.next(y.g, term); !m.over && real != ok && (y.whole || term == 0) {
			t.Errorf("%s: in the states %v %d can come: %t, but by the rules: %t", short(y.g), states, term, ok, real)
		}
	}
	if list := x.Expected(); !slices.Equal(list, expected) {
		t.Errorf("%s: in the states %v %v can come, want %v", short(y.g), states, list, expected)
	}
	stop(t)
}

// push demands what becomes of a copy of a parser by a terminal, and returns it, or nil if it was refused.
func (y *trial) push(t *testing.T, x *drive.Engine, m model, term, leaf int) (*drive.Engine, model) {
	t.Helper()
	next := x.Twin()
	e := next.Push(term, leaf)
	if after, ok := m.read(t, y.table, y.g, term); ok {
		if e != api.OK {
			t.Fatalf("%s: %d is refused: %d", short(y.g), term, e)
		}
		return next, after
	}
	if e != api.ErrToken || dump(next) != dump(x) {
		t.Fatalf("%s: Push of %d is %d, and makes %s of %s", short(y.g), term, e, dump(next), dump(x))
	}
	y.refused++
	if acts.Act(y.table, m.top.state, term).K == api.ActReduce {
		y.vainly++
	}
	return nil, m
}

// finish demands what becomes of a copy of a parser by the end of input, after these terminals.
func (y *trial) finish(t *testing.T, x *drive.Engine, m model, c chart, input []int) {
	t.Helper()
	next := x.Twin()
	root, e := next.Finish()
	after, ok := m.read(t, y.table, y.g, 0)
	if !ok {
		if root != -1 || e != api.ErrToken || dump(next) != dump(x) {
			t.Fatalf("%s: Finish is %d, %d, and makes %s of %s", short(y.g), root, e, dump(next), dump(x))
		}
		return
	}
	y.words++
	y.agree(t, next, after, c)
	tree := next.Tree()
	if e != api.OK || !slices.Equal(tree.Roots(), []int{root}) || !tree.Check(y.g, root) || !slices.Equal(tree.Yield(root), input) {
		t.Errorf("%s: the root of %v is %d with the error %d, the tree %s", short(y.g), input, root, e, tree.Show(y.g, root))
	}
	if n, _ := tree.Node(root); n.Sym != y.g.Start || !slices.Equal(tree.Leaves(root), numbers(len(input))) {
		t.Errorf("%s: the root is %v with the leaves %v", short(y.g), n, tree.Leaves(root))
	}
	if root, e := next.Finish(); root != -1 || e != api.ErrEnd || next.Push(1, 0) != api.ErrEnd {
		t.Errorf("%s: the second Finish is %d, %d", short(y.g), root, e)
	}
	stop(t)
}

// numbers returns the leaves of n terminals.
func numbers(n int) []int {
	list := []int{}
	for i := range n {
		list = append(list, 10*i+3)
	}
	return list
}

// all demands of a parser what the models say after all inputs of at most left more terminals. x is nil if it has refused one
// already: then no word may follow.
func (y *trial) all(t *testing.T, x *drive.Engine, m model, c chart, input []int, left int) {
	t.Helper()
	if x == nil && c.next(y.g, 0) || x != nil && len(c[len(c)-1]) == 0 {
		t.Fatalf("%s: the word %v is refused, or the beginning of none is not", short(y.g), input)
	}
	before := ""
	if x != nil {
		y.inputs++
		y.agree(t, x, m, c)
		y.finish(t, x, m, c, input)
		before = dump(x)
	}
	for term := 1; term <= len(y.g.Terms) && left > 0 && len(c[len(c)-1]) > 0; term++ {
		next, after := x, m
		if x != nil {
			next, after = y.push(t, x, m, term, 10*len(input)+3)
		}
		y.all(t, next, after, c.then(y.g, term), append(slices.Clip(input), term), left-1)
	}
	if x != nil && dump(x) != before {
		t.Fatalf("%s: %s has become %s by its copies", short(y.g), before, dump(x))
	}
}

// sum counts what the trials of a test have had.
type sum struct {
	tables, clashing, whole        int
	inputs, words, refused, vainly int
}

// try demands of a grammar what the models say of inputs of at most most terminals.
func (z *sum) try(t *testing.T, g api.Gram, most int) {
	t.Helper()
	x, e := drive.Make(g)
	table, f := acts.Of(g)
	if e != f || (x != nil) != (e == api.OK) {
		t.Fatalf("%s: the error is %d, want %d", short(g), e, f)
	}
	if e != api.OK {
		z.clashing++
		return
	}
	y := trial{g: g, table: table}
	y.states, _ = auto.Build(g)
	l, _ := live.Check(g)
	y.whole = l == api.OK
	y.all(t, x.New(), model{top: &frame{}}, begin(g), []int{}, most)
	z.tables++
	if y.whole {
		z.whole++
	}
	z.inputs, z.words, z.refused, z.vainly = z.inputs+y.inputs, z.words+y.words, z.refused+y.refused, z.vainly+y.vainly
}

// P20.1 to P20.3, P1: all subsets of some rules, with each nonterminal as Start, after all short inputs.
func TestSmallGrammars(t *testing.T) {
	var z sum
	for _, x := range []struct {
		most               int
		terms, nons, rules string
	}{
		{0, "", "s t", "s : | s : t | s : t t | t : | t : s | t : s t"},
		{5, "A", "s t", "s : | s : A | s : t | s : t s | t : | t : A | t : s | t : A t | t : t t"},
		{4, "A B", "s t u", "s : t u | s : s A | s : B | t : | t : u | t : t A | u : s | u : B | u :"},
		{5, "A B", "t s", "s : A s B | s : A t A | s : B | t : A s | t : A B | t : t t s"},
		{4, "A B C", "s t u", "s : t u | s : A t | t : B t C | t : B | u : u A | u : C u | u : t B | s : C"},
		{4, "A B C", "s t u", "s : A t B | s : B t C | s : t | t : u u A | t : u C | u : | u : A u B | t : t A"},
	} {
		for g := range sample.Small(x.terms, x.nons, x.rules) {
			z.try(t, g, x.most)
		}
	}
	z.least(t, sum{tables: 1600, clashing: 1300, whole: 100, inputs: 6000, words: 2500, refused: 8000, vainly: 390})
}

// P20.1 to P20.3, P1: strewn grammars, and the same ones without their useless symbols.
func TestStrewnGrammars(t *testing.T) {
	var z sum
	for _, size := range []sample.Size{
		{Terms: 4, Nons: 4, Rules: 3, Right: 3}, {Terms: 3, Nons: 8, Rules: 3, Right: 2}, {Terms: 6, Nons: 4, Rules: 2, Right: 4}, {Terms: 3, Nons: 2, Rules: 2, Right: 5},
	} {
		for g := range sample.Strewn(1500, size) {
			z.try(t, g, 4)
			if h, ok := live.Trim(g); ok && !gram.Same(g, h) {
				z.try(t, h, 5)
			}
		}
	}
	z.least(t, sum{tables: 2500, clashing: 3000, whole: 1200, inputs: 12000, words: 5000, refused: 20000, vainly: 300})
}

// P20.1 to P20.3: grammars as people write them, after longer inputs.
func TestLongerInputs(t *testing.T) {
	var z sum
	for _, x := range []struct {
		most int
		g    api.Gram
	}{
		{20, right()},
		{9, grammar("N '+' '*' '(' ')'", "e t f", "e", "e : e '+' t", "e : t", "t : t '*' f", "t : f", "f : '(' e ')'", "f : N")},
		{12, grammar("'=' '*' ID", "s l r", "s", "s : l '=' r", "s : r", "l : '*' r", "l : ID", "r : l")},
		{13, grammar("'(' ')' ','", "list tail item", "list", "list : item tail", "list :", "tail : ',' item tail", "tail :", "item : '(' list ')'")},
		{11, grammar("A B", "s t u", "s", "s : s t u", "s :", "t : A", "u : B", "u :")},
		{14, grammar("If Then Else Fi X", "c r", "c", "c : If c Then c r Fi", "r : Else c", "r :", "c : X")},
		{12, grammar("A B C", "s t u v", "s", "s : t t t C", "t : u v", "u : A", "u : B u", "v :")},
		{12, grammar("W L ';' '&'", "unit list sep", "unit", "unit : list L", "unit : list sep L", "list : list sep W", "list : W", "sep : ';'", "sep : '&'")},
	} {
		z.try(t, x.g, x.most)
	}
	z.least(t, sum{tables: 8, whole: 8, inputs: 6900, words: 1100, refused: 9000, vainly: 1400})
}

// least demands that a test has had as much as that.
func (z sum) least(t *testing.T, want sum) {
	t.Helper()
	t.Logf("%+v", z)
	if z.tables < want.tables || z.clashing < want.clashing || z.whole < want.whole || z.inputs < want.inputs || z.words < want.words ||
		z.refused < want.refused || z.vainly < want.vainly {
		t.Errorf("there were only %+v", z)
	}
}
