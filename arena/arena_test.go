package arena_test

import (
	"fmt"
	"math"
	"slices"
	"strings"
	"testing"

	"conch/api"
	"conch/arena"
	"conch/sample"
)

// outside are numbers that no node has, in any tree of these tests.
var outside = []int{math.MinInt, math.MinInt32, -3, -2, -1, 1 << 40, math.MaxInt32, math.MaxInt}

// grammar is the one of most trees here: A is 1, B is 2, s is 3, t is 4, and the augmented rule is 4.
func grammar() api.Gram {
	return sample.Grammar("A B", "s t", "s", "s : A t s", "s : t", "t :", "t : B")
}

// The nodes of grown.
const (
	leafA  = iota // A
	emptyT        // t :
	leafB         // B
	fullT         // t : B
	lastS         // s : t
	firstS        // s : A t s
	count
)

// grown returns a tree of that grammar, (s A (t) (s (t B))), with the leaves 10 and 20.
func grown(t *testing.T) *arena.Tree {
	t.Helper()
	x := arena.New()
	numbers := []int{
		x.Leaf(1, 10),
		x.Join(4, 2, nil),
		x.Leaf(2, 20),
		x.Join(4, 3, []int{leafB}),
		x.Join(3, 1, []int{fullT}),
		x.Join(3, 0, []int{leafA, emptyT, lastS}),
	}
	if !slices.Equal(numbers, []int{0, 1, 2, 3, 4, 5}) {
		t.Fatalf("the nodes have the numbers %v", numbers)
	}
	return x
}

// joined adds an inner node, which must be taken.
func joined(t *testing.T, x *arena.Tree, sym, rule int, kids ...int) int {
	t.Helper()
	next := x.Len()
	if i := x.Join(sym, rule, kids); i != next {
		t.Fatalf("Join(%d, %d, %v) is %d, want %d", sym, rule, kids, i, next)
	}
	return next
}

// refuses demands that no node with these kids is added, and that nothing has changed by it.
func refuses(t *testing.T, x *arena.Tree, kids ...int) {
	t.Helper()
	before := dump(x)
	if i := x.Join(3, 0, kids); i != -1 {
		t.Errorf("Join of %v is %d", kids, i)
	}
	if after := dump(x); after != before {
		t.Errorf("Join of %v has made %s of %s", kids, after, before)
	}
}

// dump renders all that a tree holds, with nil and empty lists alike.
func dump(x *arena.Tree) string {
	var text strings.Builder
	for i := range x.Len() {
		n, ok := x.Node(i)
		fmt.Fprint(&text, n, ok, " ")
	}
	fmt.Fprint(&text, "roots ", x.Roots())
	return text.String()
}

// nodeIs demands a node.
func nodeIs(t *testing.T, x *arena.Tree, i, sym, leaf, rule int, kids ...int) {
	t.Helper()
	n, ok := x.Node(i)
	if !ok || n.Sym != sym || n.Leaf != leaf || n.Rule != rule || !slices.Equal(n.Kids, kids) {
		t.Errorf("node %d is %v, %t, want %d %d %d %v", i, n, ok, sym, leaf, rule, kids)
	}
}

// without demands what all calls return for a number that is not a node.
func without(t *testing.T, x *arena.Tree, i int) {
	t.Helper()
	if n, ok := x.Node(i); ok || n.Sym != 0 || n.Leaf != 0 || n.Rule != 0 || len(n.Kids) > 0 {
		t.Errorf("Node(%d) is %v, %t", i, n, ok)
	}
	if l, y := x.Leaves(i), x.Yield(i); len(l) > 0 || len(y) > 0 {
		t.Errorf("Leaves(%d) is %v, and Yield %v", i, l, y)
	}
	if x.Check(grammar(), i) || x.Show(grammar(), i) != "" {
		t.Errorf("Check(%d) is %t, and Show is %q", i, x.Check(grammar(), i), x.Show(grammar(), i))
	}
}

// P19.1: each node has the number of nodes that were there before it, and is as it was made.
func TestNodes(t *testing.T) {
	x := grown(t)
	if x.Len() != count {
		t.Errorf("there are %d nodes", x.Len())
	}
	nodeIs(t, x, leafA, 1, 10, -1)
	nodeIs(t, x, emptyT, 4, -1, 2)
	nodeIs(t, x, leafB, 2, 20, -1)
	nodeIs(t, x, fullT, 4, -1, 3, leafB)
	nodeIs(t, x, lastS, 3, -1, 1, fullT)
	nodeIs(t, x, firstS, 3, -1, 0, leafA, emptyT, lastS)
}

// P19.1: a new tree has no nodes, and neither has one that no call has made.
func TestEmpty(t *testing.T) {
	for _, x := range []*arena.Tree{arena.New(), new(arena.Tree), arena.New().Twin()} {
		if x == nil || x.Len() != 0 || len(x.Roots()) > 0 {
			t.Fatalf("it has %d nodes, and the roots %v", x.Len(), x.Roots())
		}
		for _, i := range append(outside, 0, 1) {
			without(t, x, i)
			refuses(t, x, i)
		}
		if i := x.Leaf(1, 7); i != 0 {
			t.Errorf("the first node is %d", i)
		}
	}
	if x := new(arena.Tree); x.Join(3, 0, nil) != 0 || arena.New().Join(3, 0, []int{}) != 0 {
		t.Error("the first node may be an inner one")
	}
}

// P19.1: a nil tree has nothing and takes nothing.
func TestNil(t *testing.T) {
	var x *arena.Tree
	if i := x.Leaf(1, 0); i != -1 {
		t.Errorf("Leaf is %d", i)
	}
	for _, kids := range [][]int{nil, {}, {0}, {0, 0}, {-1}} {
		if i := x.Join(3, 0, kids); i != -1 {
			t.Errorf("Join of %v is %d", kids, i)
		}
	}
	if x.Len() != 0 || len(x.Roots()) > 0 || x.Twin() != nil {
		t.Errorf("it has %d nodes, the roots %v, and a copy", x.Len(), x.Roots())
	}
	for _, i := range append(outside, 0, 1) {
		without(t, x, i)
	}
}

// P19.1, P19.2, P6: numbers that are not nodes, those next to the nodes among them.
func TestOutside(t *testing.T) {
	x := grown(t)
	for _, i := range append(outside, count, count+1) {
		without(t, x, i)
		refuses(t, x, i)
		refuses(t, x, firstS, i)
		refuses(t, x, i, firstS)
	}
	refuses(t, x, count, count)
	joined(t, x, 3, 1, firstS)
}

// P19.1: a node that is the child of a node already cannot become the child of another one, at whatever place it stands.
func TestTaken(t *testing.T) {
	x := grown(t)
	free := x.Leaf(1, 30)
	for _, i := range []int{leafA, emptyT, leafB, fullT, lastS} {
		refuses(t, x, i)
		refuses(t, x, i, free)
		refuses(t, x, free, i)
		refuses(t, x, firstS, free, i)
	}
	if i := joined(t, x, 3, 0, free, firstS); !slices.Equal(x.Roots(), []int{i}) {
		t.Errorf("the roots are %v", x.Roots())
	}
	refuses(t, x, free)
	refuses(t, x, firstS)
}

// P19.1: a node cannot occur twice among the children of one.
func TestTwice(t *testing.T) {
	x := arena.New()
	a, b, c := x.Leaf(1, 0), x.Leaf(2, 1), joined(t, x, 4, 2)
	for _, i := range []int{a, b, c} {
		refuses(t, x, i, i)
		refuses(t, x, i, i, i)
	}
	refuses(t, x, a, b, a)
	refuses(t, x, b, a, a)
	refuses(t, x, a, a, b)
	refuses(t, x, a, b, c, a)
	refuses(t, x, c, b, a, b)
	joined(t, x, 3, 0, c, a, b)
}

// P19.1, P2: after a node was refused, those among its kids that were free are free, and the others are not.
func TestRefused(t *testing.T) {
	for _, bad := range []int{-1, 2, leafB, leafA, math.MaxInt} {
		x := grown(t)
		free := x.Leaf(1, 30)
		if bad == 2 {
			bad = x.Len()
		}
		refuses(t, x, free, firstS, bad, free)
		if !slices.Equal(x.Roots(), []int{firstS, free}) {
			t.Errorf("the roots are %v", x.Roots())
		}
		refuses(t, x, lastS)
		joined(t, x, 3, 0, free)
		joined(t, x, 3, 0, firstS)
	}
}

// P19.1: children stand in the order in which they are given, whatever their numbers.
func TestOrder(t *testing.T) {
	x := arena.New()
	for i := range 4 {
		x.Leaf(i+5, i*i)
	}
	n := joined(t, x, 3, 0, 2, 0, 3, 1)
	nodeIs(t, x, n, 3, -1, 0, 2, 0, 3, 1)
	if l, y := x.Leaves(n), x.Yield(n); !slices.Equal(l, []int{4, 0, 9, 1}) || !slices.Equal(y, []int{7, 5, 8, 6}) {
		t.Errorf("Leaves is %v, and Yield %v", l, y)
	}
}

// P19.1: Roots has the nodes that are not below others, in increasing order, among them leaves and nodes without children.
func TestRoots(t *testing.T) {
	x := arena.New()
	want := func(list ...int) {
		t.Helper()
		if !slices.Equal(x.Roots(), list) {
			t.Errorf("the roots are %v, want %v", x.Roots(), list)
		}
	}
	x.Leaf(1, 0)
	want(0)
	x.Join(4, 2, nil)
	x.Leaf(2, 0)
	want(0, 1, 2)
	x.Join(4, 3, []int{1})
	want(0, 2, 3)
	x.Join(4, 3, []int{3, 0})
	want(2, 4)
	x.Leaf(1, 0)
	x.Join(3, 0, []int{5, 2})
	want(4, 6)
}

// P19.1: a leaf and an inner node may have any numbers, even those by which the other kind is known.
func TestNumbers(t *testing.T) {
	extreme := append(outside, 0, 1, 2, 3, 4)
	for _, sym := range extreme {
		for _, number := range extreme {
			x := arena.New()
			leaf, inner := x.Leaf(sym, number), x.Join(sym, number, nil)
			nodeIs(t, x, leaf, sym, number, -1)
			nodeIs(t, x, inner, sym, -1, number)
			if l, y := x.Leaves(leaf), x.Yield(leaf); !slices.Equal(l, []int{number}) || !slices.Equal(y, []int{sym}) {
				t.Errorf("leaf %d %d: Leaves is %v, and Yield %v", sym, number, l, y)
			}
			if l, y := x.Leaves(inner), x.Yield(inner); len(l) > 0 || len(y) > 0 {
				t.Errorf("inner node %d %d: Leaves is %v, and Yield %v", sym, number, l, y)
			}
			name := map[int]string{0: "$", 1: "A", 2: "B", 3: "s", 4: "t"}[sym]
			if x.Show(grammar(), leaf) != name || x.Show(grammar(), inner) != "("+name+")" {
				t.Errorf("Show is %q and %q", x.Show(grammar(), leaf), x.Show(grammar(), inner))
			}
			if x.Check(grammar(), leaf) != (sym == 1 || sym == 2) || x.Check(grammar(), inner) != (sym == 4 && number == 2) {
				t.Errorf("Check of %d %d is %t and %t", sym, number, x.Check(grammar(), leaf), x.Check(grammar(), inner))
			}
		}
	}
}

// P19.1: what is done to a tree does not show in its copy, and what is done to the copy not in the tree.
func TestTwin(t *testing.T) {
	x := grown(t)
	y := x.Twin()
	if dump(x) != dump(y) {
		t.Fatalf("%s has the copy %s", dump(x), dump(y))
	}
	before := dump(x)
	joined(t, x, 3, 1, firstS)
	x.Leaf(1, 30)
	if dump(y) != before {
		t.Errorf("the copy is now %s", dump(y))
	}
	after := dump(x)
	y.Leaf(2, 40)
	joined(t, y, 4, 3, firstS, count)
	if dump(x) != after {
		t.Errorf("the tree is now %s", dump(x))
	}
	nodeIs(t, x, count, 3, -1, 1, firstS)
	nodeIs(t, x, count+1, 1, 30, -1)
	nodeIs(t, y, count, 2, 40, -1)
	nodeIs(t, y, count+1, 4, -1, 3, firstS, count)
}

// P19.1: many copies of one tree that each get nodes of their own.
func TestTwins(t *testing.T) {
	x := grown(t)
	var list []*arena.Tree
	for k := range 20 {
		y := x.Twin()
		y.Leaf(100+k, k)
		list = append(list, y)
		if k%3 == 0 {
			x.Leaf(1, k)
		}
	}
	for k, y := range list {
		last := count + (k+2)/3
		if y.Len() != last+1 {
			t.Errorf("copy %d has %d nodes", k, y.Len())
		}
		nodeIs(t, y, last, 100+k, k, -1)
	}
}

// P4: the list of kids remains as it is, and what is later written to it or to a result does not change the tree.
func TestLists(t *testing.T) {
	x := arena.New()
	a, b := x.Leaf(1, 0), x.Leaf(2, 1)
	kids := []int{b, a}
	n := joined(t, x, 3, 0, kids...)
	x.Join(3, 0, kids)
	if !slices.Equal(kids, []int{b, a}) {
		t.Errorf("the kids are %v now", kids)
	}
	y := x.Twin()
	kids[0], kids[1] = n, n
	for _, tree := range []*arena.Tree{x, y} {
		before := dump(tree) + tree.Show(grammar(), n)
		read, _ := tree.Node(n)
		for _, list := range [][]int{read.Kids, tree.Roots(), tree.Leaves(n), tree.Yield(n)} {
			for i := range list {
				list[i] = 99
			}
		}
		if after := dump(tree) + tree.Show(grammar(), n); after != before || !strings.HasSuffix(after, "(s B A)") {
			t.Errorf("%s has become %s", before, after)
		}
	}
}

// P19.2: the leaves of each node, and their symbols.
func TestLeaves(t *testing.T) {
	x := grown(t)
	for i, want := range []struct{ leaves, yield []int }{
		leafA:  {[]int{10}, []int{1}},
		emptyT: {},
		leafB:  {[]int{20}, []int{2}},
		fullT:  {[]int{20}, []int{2}},
		lastS:  {[]int{20}, []int{2}},
		firstS: {[]int{10, 20}, []int{1, 2}},
	} {
		if l, y := x.Leaves(i), x.Yield(i); !slices.Equal(l, want.leaves) || !slices.Equal(y, want.yield) {
			t.Errorf("node %d: Leaves is %v, and Yield %v", i, l, y)
		}
	}
}

// P19.2: the example of the chapter, and Show of each node.
func TestShow(t *testing.T) {
	g := sample.Grammar("A", "s t", "s", "s : A t", "t :")
	e := arena.New()
	e.Leaf(1, 0)
	e.Join(3, 1, nil)
	if text := e.Show(g, e.Join(2, 0, []int{0, 1})); text != "(s A (t))" {
		t.Errorf("it is %q", text)
	}
	x := grown(t)
	for i, want := range []string{"A", "(t)", "B", "(t B)", "(s (t B))", "(s A (t) (s (t B)))"} {
		if text := x.Show(grammar(), i); text != want {
			t.Errorf("node %d is %q, want %q", i, text, want)
		}
	}
}

// P19.2: Show has the names of the symbols and no more, whether or not the grammar is valid or has such a symbol.
func TestShowNames(t *testing.T) {
	x := grown(t)
	quoted := sample.Grammar("'(' 'a'", "long_name t1", "t1")
	if text := x.Show(quoted, firstS); text != "(long_name '(' (t1) (long_name (t1 'a')))" {
		t.Errorf("it is %q", text)
	}
	if text := x.Show(api.Gram{}, firstS); text != "(  () ( ( )))" {
		t.Errorf("without symbols it is %q", text)
	}
	odd := api.Gram{Terms: []string{"", " "}, Nons: []string{")(", "\xff"}}
	if text := x.Show(odd, firstS); text != "()(  (\xff) ()( (\xff  )))" {
		t.Errorf("with odd names it is %q", text)
	}
	if text := x.Show(odd, leafA); text != "" {
		t.Errorf("a leaf without a name is %q", text)
	}
	y := arena.New()
	y.Leaf(0, 0)
	if text := y.Show(api.Gram{}, y.Join(0, 0, []int{0})); text != "($ $)" {
		t.Errorf("the end of input is %q", text)
	}
}

// P19.2: each node of a tree of the grammar holds, even if its symbol is not Start.
func TestCheck(t *testing.T) {
	x := grown(t)
	for i := range count {
		if !x.Check(grammar(), i) {
			t.Errorf("node %d does not hold", i)
		}
	}
}

// P19.2: a grammar that is not valid derives nothing, not even what it derives without its error.
func TestCheckGrammar(t *testing.T) {
	x := arena.New()
	x.Leaf(1, 0)
	joined(t, x, 3, 0, 0)
	joined(t, x, 5, 3)
	for i := range x.Len() {
		if !x.Check(sample.Valid(), i) {
			t.Errorf("node %d does not hold", i)
		}
		for _, bad := range sample.Invalid() {
			if x.Check(bad.G, i) {
				t.Errorf("%s with the error %d derives node %d", short(bad.G), bad.E, i)
			}
		}
	}
}

// P19.2: a leaf must be a terminal, at the top and below.
func TestCheckLeaf(t *testing.T) {
	for sym, want := range map[int]bool{math.MinInt: false, -1: false, 0: false, 1: true, 2: true, 3: false, 4: false, 5: false, math.MaxInt: false} {
		x := arena.New()
		if leaf := x.Leaf(sym, 0); x.Check(grammar(), leaf) != want {
			t.Errorf("Check of the leaf %d is %t", sym, !want)
		}
	}
	x := arena.New()
	leaf := x.Leaf(4, 0) // t, which must have children of its own even if it has none
	if n := joined(t, x, 3, 1, leaf); x.Check(grammar(), n) {
		t.Error("a nonterminal may be a leaf")
	}
}

// P19.2: an inner node must have a rule of the grammar, which is not the augmented one, with its symbol and those of its kids.
func TestCheckInner(t *testing.T) {
	for _, c := range []struct {
		what      string
		sym, rule int
		kids      []int
		want      bool
	}{
		{"s : A t s", 3, 0, []int{1, 4, 3}, true},
		{"s : t", 3, 1, []int{4}, true},
		{"t : B", 4, 3, []int{2}, true},
		{"t :", 4, 2, nil, true},
		{"the augmented rule", 0, 4, []int{3}, false},
		{"the augmented rule with Start", 3, 4, []int{3}, false},
		{"behind the augmented rule", 3, 5, []int{4}, false},
		{"no rule", 3, -1, []int{4}, false},
		{"the least number", 3, math.MinInt, []int{4}, false},
		{"the greatest number", 3, math.MaxInt, []int{4}, false},
		{"another left side", 4, 1, []int{4}, false},
		{"a terminal", 1, 1, []int{4}, false},
		{"the end", 0, 1, []int{4}, false},
		{"no kid", 3, 1, nil, false},
		{"one kid less", 3, 0, []int{1, 4}, false},
		{"the first kid less", 3, 0, []int{4, 3}, false},
		{"one kid more", 3, 1, []int{4, 4}, false},
		{"a kid of an empty rule", 4, 2, []int{2}, false},
		{"another kid", 3, 1, []int{3}, false},
		{"other kids", 3, 0, []int{2, 4, 3}, false},
		{"kids in another order", 3, 0, []int{4, 1, 3}, false},
		{"a kid that is no symbol", 3, 1, []int{-1}, false},
		{"the rule of another right side", 3, 0, []int{4}, false},
	} {
		x := arena.New()
		var kids []int
		for _, sym := range c.kids {
			kids = append(kids, symbol(t, x, sym))
		}
		if n := joined(t, x, c.sym, c.rule, kids...); x.Check(grammar(), n) != c.want {
			t.Errorf("%s: Check of %s is %t", c.what, x.Show(grammar(), n), !c.want)
		}
	}
}

// symbol adds a node with that symbol that is derived by the grammar, if there is one.
func symbol(t *testing.T, x *arena.Tree, sym int) int {
	t.Helper()
	switch sym {
	case 3:
		return joined(t, x, 3, 1, symbol(t, x, 4))
	case 4:
		return joined(t, x, 4, 2)
	}
	return x.Leaf(sym, 0)
}

// P19.2: what is wrong anywhere below a node counts, and what is wrong above or beside it does not.
func TestCheckBelow(t *testing.T) {
	for _, bad := range []int{0, 1, 2} {
		x := arena.New()
		last := []int{x.Join(4, 2, nil), x.Join(4, 3, nil), x.Join(4, 3, []int{x.Leaf(1, 0)})}[bad]
		beside := symbol(t, x, 4)
		n := joined(t, x, 3, 1, last)
		for depth := range 5 {
			if x.Check(grammar(), n) != (bad == 0) || !x.Check(grammar(), beside) {
				t.Errorf("case %d at the depth %d: Check is %t and %t", bad, depth, x.Check(grammar(), n), x.Check(grammar(), beside))
			}
			beside = symbol(t, x, 4)
			n = joined(t, x, 3, 0, x.Leaf(1, 0), beside, n)
		}
		wrong := joined(t, x, 1, 0, n)
		if x.Check(grammar(), wrong) || x.Check(grammar(), n) != (bad == 0) {
			t.Errorf("case %d: Check is %t above and %t below", bad, x.Check(grammar(), wrong), x.Check(grammar(), n))
		}
	}
}

// P19.2: of rules with the same right side it is the one of the node that counts.
func TestCheckRule(t *testing.T) {
	g := sample.Grammar("A", "s t", "s", "s : A", "t : A", "s : t")
	x := arena.New()
	for sym := 2; sym <= 3; sym++ {
		for rule := range 4 {
			n := joined(t, x, sym, rule, x.Leaf(1, 0))
			if want := rule == sym-2; x.Check(g, n) != want {
				t.Errorf("Check of %s with the rule %d is %t", x.Show(g, n), rule, !want)
			}
		}
	}
}

// P3: nil and empty lists are alike.
func TestNilLists(t *testing.T) {
	x, y := arena.New(), arena.New()
	g, h := grammar(), grammar()
	g.Rules[2].Right, h.Rules[2].Right = nil, []int{}
	for _, tree := range []*arena.Tree{x, y} {
		for _, kids := range [][]int{nil, {}} {
			n := tree.Join(4, 2, kids)
			nodeIs(t, tree, n, 4, -1, 2)
			if !tree.Check(g, n) || !tree.Check(h, n) || tree.Show(g, n) != "(t)" {
				t.Errorf("node %d does not hold", n)
			}
		}
	}
}

// P1: a tree may be very deep, or have very many children.
func TestLarge(t *testing.T) {
	g := sample.Grammar("A", "s", "s", "s : A s", "s : s A", "s :")
	const size = 1 << 18
	for rule := range 2 {
		x := arena.New()
		n := x.Join(2, 2, nil)
		for k := range size {
			kids := []int{x.Leaf(1, k), n}
			if rule == 1 {
				slices.Reverse(kids)
			}
			n = joined(t, x, 2, rule, kids...)
		}
		l := x.Leaves(n)
		if rule == 0 {
			slices.Reverse(l)
		}
		if len(l) != size || l[0] != 0 || l[size-1] != size-1 || !slices.IsSorted(l) || len(x.Yield(n)) != size {
			t.Errorf("rule %d: the leaves are %s", rule, short(l))
		}
		if !x.Check(g, n) || len(x.Show(g, n)) != 6*size+3 || !slices.Equal(x.Roots(), []int{n}) {
			t.Errorf("rule %d: Check is %t, and Show has %d bytes", rule, x.Check(g, n), len(x.Show(g, n)))
		}
	}
	x := arena.New()
	var kids []int
	for k := range size {
		kids = append(kids, x.Leaf(1, k))
	}
	refuses(t, x, append(kids, 0)...)
	n := joined(t, x, 2, 0, kids...)
	if !slices.Equal(x.Leaves(n), kids) || x.Check(g, n) {
		t.Errorf("the leaves are %s", short(x.Leaves(n)))
	}
}
