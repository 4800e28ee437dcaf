package arena_test

import (
	"fmt"
	"math"
	"slices"
	"strings"
	"testing"

	"conch/api"
	"conch/arena"
	"conch/gram"
	"conch/sample"
)

// The model is the chapter once more by other means: it keeps a list of records, looks for the one of which a node is the child, goes
// down by calling itself, and compares rules as texts. It is held against the package after each short sequence of calls there is, after
// long strewn ones, and on the trees of strewn grammars, of which one number at a time is changed.

// short renders a value, but not more than the beginning of a long one.
func short(value any) string {
	text := fmt.Sprint(value)
	return text[:min(len(text), 300)]
}

// stop ends a test that has failed: other trees would tell the same again.
func stop(t *testing.T) {
	t.Helper()
	if t.Failed() {
		t.FailNow()
	}
}

// record is a call that has added a node.
type record struct {
	inner bool
	sym   int
	n     int // the number of a leaf, or the rule
	kids  []int
}

// model is the records of a tree by the numbers of their nodes.
type model []record

// parents returns how many nodes have node i as a child.
func (m model) parents(i int) int {
	n := 0
	for _, r := range m {
		for _, kid := range r.kids {
			if kid == i {
				n++
			}
		}
	}
	return n
}

// fits reports whether a record can be added.
func (m model) fits(r record) bool {
	with := append(slices.Clone(m), r)
	for _, kid := range r.kids {
		if kid < 0 || kid >= len(m) || with.parents(kid) != 1 {
			return false
		}
	}
	return true
}

// node returns node i.
func (m model) node(i int) api.TNode {
	if r := m[i]; r.inner {
		return api.TNode{Sym: r.sym, Leaf: -1, Rule: r.n, Kids: r.kids}
	}
	return api.TNode{Sym: m[i].sym, Leaf: m[i].n, Rule: -1}
}

// roots returns the nodes that are not below others.
func (m model) roots() []int {
	list := []int{}
	for i := range m {
		if m.parents(i) == 0 {
			list = append(list, i)
		}
	}
	return list
}

// leaves returns the records of the leaves of node i.
func (m model) leaves(i int) []record {
	if !m[i].inner {
		return []record{m[i]}
	}
	var list []record
	for _, kid := range m[i].kids {
		list = append(list, m.leaves(kid)...)
	}
	return list
}

// numbers returns the numbers of the leaves of node i.
func (m model) numbers(i int) []int {
	list := []int{}
	for _, r := range m.leaves(i) {
		list = append(list, r.n)
	}
	return list
}

// yield returns the symbols of the leaves of node i.
func (m model) yield(i int) []int {
	list := []int{}
	for _, r := range m.leaves(i) {
		list = append(list, r.sym)
	}
	return list
}

// show renders node i.
func (m model) show(g api.Gram, i int) string {
	if !m[i].inner {
		return gram.Name(g, m[i].sym)
	}
	words := []string{gram.Name(g, m[i].sym)}
	for _, kid := range m[i].kids {
		words = append(words, m.show(g, kid))
	}
	return "(" + strings.Join(words, " ") + ")"
}

// holds reports whether a valid grammar derives node i.
func (m model) holds(g api.Gram, i int) bool {
	r := m[i]
	if !r.inner {
		return slices.Contains(g.Terms, gram.Name(g, r.sym))
	}
	rules := map[int]string{}
	for k, x := range g.Rules {
		rules[k] = fmt.Sprint(x.Left, x.Right)
	}
	symbols := []int{}
	right := true
	for _, kid := range r.kids {
		symbols = append(symbols, m[kid].sym)
		right = right && m.holds(g, kid)
	}
	return right && rules[r.n] == fmt.Sprint(r.sym, symbols)
}

// apply makes the call of a record on a tree, which must answer as the model does, and returns what the model is then.
func (m model) apply(t *testing.T, x *arena.Tree, r record) model {
	t.Helper()
	want := len(m)
	if !m.fits(r) {
		want = -1
	}
	got := 0
	if r.inner {
		got = x.Join(r.sym, r.n, r.kids)
	} else {
		got = x.Leaf(r.sym, r.n)
	}
	if got != want {
		t.Errorf("behind %v the call %v is %d, want %d", m, r, got, want)
	}
	if want == -1 {
		return m
	}
	return append(slices.Clone(m), r)
}

// compare holds all that reads a tree against the model.
func (m model) compare(t *testing.T, x *arena.Tree, g api.Gram) {
	t.Helper()
	roots := x.Roots()
	if x.Len() != len(m) || !slices.Equal(roots, m.roots()) {
		t.Errorf("%v: it has %d nodes and the roots %v", m, x.Len(), roots)
	}
	for i := range m {
		if n, ok := x.Node(i); !ok || fmt.Sprint(n) != fmt.Sprint(m.node(i)) {
			t.Errorf("%v: node %d is %v, %t", m, i, n, ok)
		}
		if l, y := x.Leaves(i), x.Yield(i); !slices.Equal(l, m.numbers(i)) || !slices.Equal(y, m.yield(i)) {
			t.Errorf("%v: node %d has the leaves %v, %v", m, i, l, y)
		}
		if s := x.Show(g, i); s != m.show(g, i) {
			t.Errorf("%v: node %d is %q", m, i, s)
		}
		if c := x.Check(g, i); c != m.holds(g, i) {
			t.Errorf("%v: Check of node %d is %t", m, i, c)
		}
	}
	m.parted(t, x, roots)
}

// parted demands that the roots together have all leaves, each exactly once.
func (m model) parted(t *testing.T, x *arena.Tree, roots []int) {
	t.Helper()
	var all, below []string
	for _, r := range m {
		if !r.inner {
			all = append(all, fmt.Sprint(r.n, r.sym))
		}
	}
	for _, i := range roots {
		yield := x.Yield(i)
		for k, leaf := range x.Leaves(i) {
			below = append(below, fmt.Sprint(leaf, yield[k]))
		}
	}
	slices.Sort(all)
	slices.Sort(below)
	if !slices.Equal(all, below) {
		t.Errorf("%v: the leaves are %v, and those of the roots %v", m, all, below)
	}
}

// calls returns calls with all lists of at most two kids that the first nodes, and the numbers next to them, make.
func calls(nodes int) []record {
	list := []record{{sym: 1, n: nodes}, {sym: 2, n: nodes}, {inner: true, sym: 2, n: 1}}
	for i := -1; i <= nodes; i++ {
		list = append(list, record{inner: true, sym: 2, n: 2, kids: []int{i}})
		for k := -1; k <= nodes; k++ {
			list = append(list, record{inner: true, sym: 2, n: 0, kids: []int{i, k}})
		}
	}
	return list
}

// P19.1, P19.2, P19.3, P5: all short sequences of calls, and that a tree remains as it is while its copy goes on.
func TestSequences(t *testing.T) {
	g := sample.Grammar("A", "s", "s", "s : A s", "s :", "s : A")
	var extend func(x *arena.Tree, m model, most int)
	extend = func(x *arena.Tree, m model, most int) {
		m.compare(t, x, g)
		stop(t)
		if most == 0 {
			return
		}
		before := dump(x)
		for _, r := range calls(len(m)) {
			y := x.Twin()
			longer := m.apply(t, y, r)
			if len(longer) > len(m) {
				extend(y, longer, most-1)
			} else if after := dump(y); after != before {
				t.Errorf("%v, which was refused, has made %s of %s", r, after, before)
			}
		}
		if after := dump(x); after != before {
			t.Errorf("%s has become %s", before, after)
		}
		stop(t)
	}
	extend(arena.New(), nil, 5)
}

// strewer makes the same numbers each time.
type strewer uint32

// next returns a number below n.
func (s *strewer) next(n int) int {
	*s = *s*1664525 + 1013904223
	return int(*s>>8) % n
}

// call returns a call on a tree with that many nodes; most of its kids are among the last ones.
func (s *strewer) call(nodes int) record {
	if s.next(3) == 0 {
		return record{sym: s.next(5), n: nodes}
	}
	r := record{inner: true, sym: s.next(5), n: s.next(5)}
	for range s.next(4) {
		kid := nodes - 1 - s.next(6)
		if s.next(20) == 0 {
			kid = []int{-1, nodes, math.MinInt, math.MaxInt, 0}[s.next(5)]
		}
		r.kids = append(r.kids, kid)
	}
	return r
}

// P19.1, P19.2, P19.3: long strewn sequences of calls.
func TestStrewn(t *testing.T) {
	var s strewer
	for range 300 {
		x := arena.New()
		var m model
		for range 60 {
			m = m.apply(t, x, s.call(len(m)))
		}
		m.compare(t, x, grammar())
		stop(t)
	}
}

// derive adds a tree of a valid grammar to the model, and returns its root. Where it is too deep, it has a leaf in the place of a
// nonterminal.
func (s *strewer) derive(m model, g api.Gram, sym, depth int) (model, int) {
	rules := gram.Of(g, sym)
	if len(rules) == 0 || depth == 0 {
		return append(m, record{sym: sym, n: len(m)}), len(m)
	}
	rule := rules[s.next(len(rules))]
	r := record{inner: true, sym: sym, n: rule}
	for _, below := range g.Rules[rule].Right {
		var kid int
		m, kid = s.derive(m, g, below, depth-1)
		r.kids = append(r.kids, kid)
	}
	return append(m, r), len(m)
}

// tree makes the tree of a model.
func (m model) tree(t *testing.T) *arena.Tree {
	t.Helper()
	x := arena.New()
	var done model
	for _, r := range m {
		done = done.apply(t, x, r)
	}
	return x
}

// changed returns the model with one number of it changed, or with a leaf as an inner node.
func (s *strewer) changed(m model) model {
	m = slices.Clone(m)
	r := &m[s.next(len(m))]
	switch s.next(4) {
	case 0:
		r.sym += s.next(3) - 1
	case 1:
		r.n += s.next(3) - 1
	case 2:
		r.inner = !r.inner && len(r.kids) == 0 || len(r.kids) > 0
	case 3:
		r.kids = slices.Clone(r.kids[:max(len(r.kids)-1, 0)])
	}
	return m
}

// P19.2: trees of grammars hold, with all below them, unless a number of theirs is changed so that there is no such rule or terminal.
func TestDerived(t *testing.T) {
	var s strewer
	whole, broken, kept := 0, 0, 0
	for g := range sample.Strewn(3000, sample.Size{Terms: 3, Nons: 3, Rules: 3, Right: 3}) {
		if gram.Check(g) != api.OK {
			continue
		}
		m, root := s.derive(nil, g, g.Start, 4)
		x := m.tree(t)
		m.compare(t, x, g)
		if x.Check(g, root) {
			whole++
		}
		m = s.changed(m)
		x = m.tree(t)
		m.compare(t, x, g)
		if x.Check(g, root) {
			kept++
		} else {
			broken++
		}
		stop(t)
	}
	if whole < 300 || broken < 300 || kept < 50 {
		t.Errorf("there were only %d whole trees, %d broken ones, and %d that hold in spite of a change", whole, broken, kept)
	}
}
