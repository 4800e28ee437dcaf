package drive_test

import (
	"fmt"
	"math"
	"slices"
	"strings"
	"testing"

	"conch/api"
	"conch/drive"
	"conch/gram"
	"conch/sample"
)

// Short names: almost every test makes grammars.
var grammar = sample.Grammar

// extreme are numbers that are no terminals of any grammar.
var extreme = []int{math.MinInt, math.MinInt + 1, math.MinInt32, -2, -1, api.MaxTerms + 1, 1 << 16, 1 << 32, math.MaxInt32, math.MaxInt - 1, math.MaxInt}

// right is the grammar of the chapter's example, with a state for each of A, B, s and A s: 1 to 4.
func right() api.Gram {
	return grammar("A B", "s", "s", "s : A s", "s : B")
}

// made returns the tables of a grammar, which must have some.
func made(t *testing.T, g api.Gram) *drive.Tables {
	t.Helper()
	x, e := drive.Make(g)
	if e != api.OK || x == nil {
		t.Fatalf("%s has no tables: %d", short(g), e)
	}
	return x
}

// fed returns a new parser for a grammar that has accepted some terminals, which have the leaves 0, 1 and so on.
func fed(t *testing.T, g api.Gram, terms string) *drive.Engine {
	t.Helper()
	x := made(t, g).New()
	push(t, g, x, terms)
	return x
}

// push passes terminals to a parser, which must accept them. They have the leaves 0, 1 and so on.
func push(t *testing.T, g api.Gram, x *drive.Engine, terms string) {
	t.Helper()
	for i, name := range strings.Fields(terms) {
		if e := x.Push(gram.Find(g, name), i); e != api.OK {
			t.Fatalf("%s: %s at %d of %q is refused: %d", short(g), name, i, terms, e)
		}
	}
}

// finish ends the input of a parser, which must accept it, and returns the tree.
func finish(t *testing.T, g api.Gram, x *drive.Engine) string {
	t.Helper()
	root, e := x.Finish()
	if e != api.OK {
		t.Fatalf("%s: the end is refused: %d", short(g), e)
	}
	if !slices.Equal(x.Tree().Roots(), []int{root}) {
		t.Errorf("%s: the root is %d among %v", short(g), root, x.Tree().Roots())
	}
	return x.Tree().Show(g, root)
}

// expects demands what can come, such as "$ A", from Expected and from Probe.
func expects(t *testing.T, g api.Gram, x *drive.Engine, want string) {
	t.Helper()
	var list, probed []string
	for _, term := range x.Expected() {
		list = append(list, gram.Name(g, term))
	}
	for term := range gram.Top(g) + 2 {
		if x.Probe(term) {
			probed = append(probed, gram.Name(g, term))
		}
	}
	if got := strings.Join(list, " "); got != want {
		t.Errorf("%s: %q can come, want %q", short(g), got, want)
	}
	if got := strings.Join(probed, " "); got != want {
		t.Errorf("%s: Probe says that %q can come, want %q", short(g), got, want)
	}
	for _, term := range extreme {
		if x.Probe(term) {
			t.Errorf("%s: %d can come", short(g), term)
		}
	}
}

// refuses demands that a number is refused with an error, and that nothing has changed by it. 0 is passed to Push, too.
func refuses(t *testing.T, x *drive.Engine, term int, want api.Errno) {
	t.Helper()
	before := dump(x)
	if e := x.Push(term, 7); e != want {
		t.Errorf("Push of %d is %d, want %d", term, e, want)
	}
	if after := dump(x); after != before {
		t.Errorf("Push of %d has made %s of %s", term, after, before)
	}
}

// endless demands that the end of input is refused with an error, and that nothing has changed by it.
func endless(t *testing.T, x *drive.Engine, want api.Errno) {
	t.Helper()
	before := dump(x)
	if root, e := x.Finish(); root != -1 || e != want {
		t.Errorf("Finish is %d, %d, want -1, %d", root, e, want)
	}
	if after := dump(x); after != before {
		t.Errorf("Finish has made %s of %s", after, before)
	}
}

// dump renders all that can be asked of a parser, with nil and empty lists alike.
func dump(x *drive.Engine) string {
	var text strings.Builder
	fmt.Fprint(&text, x.Stack(), x.Steps(), " expects ", x.Expected(), ":")
	for i := range x.Tree().Len() {
		n, _ := x.Tree().Node(i)
		fmt.Fprint(&text, " ", n)
	}
	return text.String()
}

// state demands the states of a parser, and how many steps it has made.
func state(t *testing.T, x *drive.Engine, steps int, states ...int) {
	t.Helper()
	if !slices.Equal(x.Stack(), states) || x.Steps() != steps {
		t.Errorf("after %d steps the states are %v, want %v after %d", x.Steps(), x.Stack(), states, steps)
	}
}

// nodes demands the nodes of a parser's tree, as fmt prints them.
func nodes(t *testing.T, x *drive.Engine, want ...string) {
	t.Helper()
	var list []string
	for i := range x.Tree().Len() {
		n, _ := x.Tree().Node(i)
		list = append(list, fmt.Sprint(n))
	}
	if !slices.Equal(list, want) {
		t.Errorf("the nodes are %q, want %q", list, want)
	}
}

// P20.1 to P20.3: the example of the chapter, after each terminal.
func TestExample(t *testing.T) {
	g := right()
	x := made(t, g).New()
	state(t, x, 0, 0)
	nodes(t, x)
	expects(t, g, x, "A B")
	push(t, g, x, "A")
	state(t, x, 1, 0, 1)
	expects(t, g, x, "A B")
	push(t, g, x, "A")
	state(t, x, 2, 0, 1, 1)
	push(t, g, x, "B")
	state(t, x, 3, 0, 1, 1, 2)
	expects(t, g, x, "$")
	nodes(t, x, "{1 0 -1 []}", "{1 0 -1 []}", "{2 0 -1 []}")
	if text := finish(t, g, x); text != "(s A (s A (s B)))" {
		t.Errorf("the tree is %s", text)
	}
	state(t, x, 6, 0, 3)
	nodes(t, x, "{1 0 -1 []}", "{1 0 -1 []}", "{2 0 -1 []}", "{3 -1 1 [2]}", "{3 -1 0 [1 3]}", "{3 -1 0 [0 4]}")
	expects(t, g, x, "")
}

// P20.1: grammars without tables have the error of chapter 15, and nothing else.
func TestMakeErrors(t *testing.T) {
	bad := append(sample.Invalid(),
		sample.Bad{E: api.ErrMany, G: sample.Sharp(api.MaxStates + 1)},
		sample.Bad{E: api.ErrClash, G: grammar("A B", "s", "s", "s : s A s", "s : B")},
		sample.Bad{E: api.ErrClash, G: grammar("A", "s t", "s", "s : t", "s : A", "t : A")},
		sample.Bad{E: api.ErrClash, G: grammar("", "s", "s", "s : s")},
		// LR(1), but the lookaheads of t and u come together behind C.
		sample.Bad{E: api.ErrClash, G: grammar("A B C D E", "s t u", "s", "s : A t D", "s : B u D", "s : A u E", "s : B t E", "t : C", "u : C")},
	)
	for _, b := range bad {
		before := fmt.Sprint(b.G)
		if x, e := drive.Make(b.G); x != nil || e != b.E {
			t.Errorf("%s: the error is %d, want %d", short(b.G), e, b.E)
		}
		if fmt.Sprint(b.G) != before {
			t.Errorf("%s was modified", short(before))
		}
	}
}

// P20.1: just as many states as there may be, and one less.
func TestMakeLimit(t *testing.T) {
	for _, n := range []int{3, api.MaxStates - 1, api.MaxStates} {
		g := sample.Sharp(n)
		x := made(t, g)
		for _, k := range []int{0, len(g.Rules) - 1} {
			y := x.New()
			for i, term := range g.Rules[k].Right {
				if e := y.Push(term, i); e != api.OK {
					t.Fatalf("%d states: rule %d is refused at %d: %d", n, k, i, e)
				}
			}
			if root, e := y.Finish(); e != api.OK || root != len(g.Rules[k].Right) {
				t.Errorf("%d states: rule %d has the root %d with the error %d", n, k, root, e)
			}
		}
	}
}

// P20.1, P20.2: grammars of the greatest size.
func TestMost(t *testing.T) {
	g := sample.Sized(api.MaxTerms, 1)
	for i := range api.MaxTerms {
		g.Rules = append(g.Rules, api.Rule{Left: g.Start, Right: []int{1 + i}}, api.Rule{Left: g.Start, Right: []int{1 + i, g.Start}})
	}
	g.Rules = g.Rules[:2*api.MaxTerms-1] // the last terminal must be the last one
	x := made(t, g).New()
	for i := range api.MaxTerms {
		want := api.MaxTerms
		if i > 0 {
			want++
		}
		if list := x.Expected(); len(list) != want || list[want-1] != api.MaxTerms || x.Probe(api.MaxTerms+1) {
			t.Fatalf("after %d terminals %v can come", i, list)
		}
		refuses(t, x, api.MaxTerms+1, api.ErrArg)
		if e := x.Push(i+1, i); e != api.OK {
			t.Fatalf("terminal %d is refused: %d", i+1, e)
		}
	}
	expects(t, g, x, "$")
	if root, e := x.Finish(); e != api.OK || len(x.Tree().Leaves(root)) != api.MaxTerms || x.Steps() != 2*api.MaxTerms {
		t.Errorf("the root is %d with the error %d after %d steps", root, e, x.Steps())
	}
	for _, right := range []int{1, api.MaxRight - 1} {
		x := made(t, sample.Around(right)).New()
		if list := x.Expected(); len(list) > 0 {
			t.Errorf("Around(%d) has no words, but expects %v", right, list)
		}
	}
}

// P20.1: Gram is the grammar as it was passed, whatever happens to that one, or to what Gram has returned.
func TestGram(t *testing.T) {
	for _, g := range []api.Gram{right(), grammar("'+' A", "s t u", "t", "t : s '+' s", "s :", "u : A", "s : A"), grammar("", "s", "s", "s :"), sample.Around(2)} {
		want := fmt.Sprint(g)
		x := made(t, g)
		if fmt.Sprint(g) != want || fmt.Sprint(x.Gram()) != want || !gram.Same(x.Gram(), g) {
			t.Errorf("%s has become %s", short(want), short(x.Gram()))
		}
		y := x.Gram()
		for _, z := range []api.Gram{g, y} {
			z.Nons[0] = "other"
			if len(z.Terms) > 0 {
				z.Terms[0] = "Other"
			}
			z.Rules[0].Left = 0
			if len(z.Rules[0].Right) > 0 {
				z.Rules[0].Right[0] = 0
			}
			if fmt.Sprint(x.Gram()) != want {
				t.Errorf("%s is now %s", short(want), short(x.Gram()))
			}
		}
	}
	g := right()
	x := made(t, g)
	g.Rules[0].Left, g.Rules[0].Right[0], g.Terms[0] = 1, 2, "X"
	y := x.New()
	push(t, right(), y, "A B")
	if text := finish(t, right(), y); text != "(s A (s B))" {
		t.Errorf("the tree is %s", text)
	}
}

// P20.1: nil tables have an empty grammar, and no parser.
func TestNilTables(t *testing.T) {
	var x *drive.Tables
	if g := x.Gram(); len(g.Terms)+len(g.Nons)+len(g.Rules)+g.Start != 0 {
		t.Errorf("the grammar is %v", g)
	}
	if x.New() != nil {
		t.Error("there is a parser")
	}
}

// P20.1: each parser of the same tables begins anew, and goes on apart from the others.
func TestNew(t *testing.T) {
	g := right()
	x := made(t, g)
	a := x.New()
	push(t, g, a, "A A")
	b := x.New()
	state(t, b, 0, 0)
	nodes(t, b)
	push(t, g, b, "B")
	state(t, a, 2, 0, 1, 1)
	if text := finish(t, g, b); text != "(s B)" {
		t.Errorf("the tree is %s", text)
	}
	push(t, g, a, "B")
	if text := finish(t, g, a); text != "(s A (s A (s B)))" {
		t.Errorf("the tree is %s", text)
	}
	state(t, x.New(), 0, 0)
}

// P20.2, P20.3: a nil parser accepts nothing and has nothing.
func TestNilEngine(t *testing.T) {
	var x *drive.Engine
	for _, term := range append(extreme, 0, 1, 2) {
		if x.Probe(term) {
			t.Errorf("%d can come", term)
		}
		if e := x.Push(term, 0); e != api.ErrZero {
			t.Errorf("Push of %d is %d", term, e)
		}
	}
	if root, e := x.Finish(); root != -1 || e != api.ErrZero {
		t.Errorf("Finish is %d, %d", root, e)
	}
	if len(x.Stack()) > 0 || x.Tree() != nil || x.Steps() != 0 || len(x.Expected()) > 0 || x.Twin() != nil {
		t.Errorf("it has the states %v and %d steps, and expects %v", x.Stack(), x.Steps(), x.Expected())
	}
}

// P1: tables and parsers that no call has made, though the chapter does not ask for them.
func TestMadeByNobody(t *testing.T) {
	x := new(drive.Tables).New()
	expects(t, api.Gram{}, x, "")
	refuses(t, x, 1, api.ErrArg)
	endless(t, x, api.ErrToken)
	for _, x := range []*drive.Engine{new(drive.Engine), new(drive.Engine).Twin()} {
		expects(t, right(), x, "")
		refuses(t, x, 1, api.ErrZero)
		endless(t, x, api.ErrZero)
	}
}

// P20.2, P6: numbers that are not terminals, at the beginning, in between, and where the input can end.
func TestNotTerminals(t *testing.T) {
	g := grammar("A B", "s t", "s", "s : A t", "t : s", "t : B", "t :")
	for _, terms := range []string{"", "A", "A A", "A B"} {
		x := fed(t, g, terms)
		for _, term := range append(extreme, 0, 3, 4, 5, 6) {
			refuses(t, x, term, api.ErrArg)
			if term != 0 && x.Probe(term) {
				t.Errorf("%d can come after %q", term, terms)
			}
		}
	}
}

// P20.2: a terminal that cannot come is refused, and the parser goes on as if it had not been there.
func TestRefused(t *testing.T) {
	g := grammar("A B C", "s t", "s", "s : A t C", "t : t B", "t : B")
	x := made(t, g).New()
	for _, step := range []struct{ term, others string }{{"A", "B C"}, {"B", "A C"}, {"B", "A"}, {"C", "A"}} {
		for _, name := range strings.Fields(step.others) {
			refuses(t, x, gram.Find(g, name), api.ErrToken)
		}
		endless(t, x, api.ErrToken)
		push(t, g, x, step.term)
	}
	for term := 1; term <= 3; term++ {
		refuses(t, x, term, api.ErrToken)
	}
	if text := finish(t, g, x); text != "(s A (t (t B) B) C)" || x.Steps() != 7 {
		t.Errorf("the tree is %s after %d steps", text, x.Steps())
	}
}

// P20.2: where rules are reduced before a terminal that then cannot come, nothing is left of these reductions. Here the lookaheads of
// t come from two places, and those of the empty u from behind t.
func TestReducedInVain(t *testing.T) {
	g := grammar("A B C D E", "s t u", "s", "s : A t C", "s : B t D", "t : E E u", "u :")
	for _, x := range []struct{ begin, end, wrong string }{{"A", "C", "D"}, {"B", "D", "C"}} {
		y := fed(t, g, x.begin+" E E")
		expects(t, g, y, x.end)
		refuses(t, y, gram.Find(g, x.wrong), api.ErrToken)
		endless(t, y, api.ErrToken)
		state(t, y, 3, y.Stack()...)
		push(t, g, y, x.end)
		if text := finish(t, g, y); text != "(s "+x.begin+" (t E E (u)) "+x.end+")" || y.Steps() != 7 {
			t.Errorf("the tree is %s after %d steps", text, y.Steps())
		}
	}
}

// P20.2: what can come is what is shifted, even if no word has it: t has none.
func TestUseless(t *testing.T) {
	g := grammar("A B C", "s t u", "s", "s : A t", "s : B", "t : C t", "u : C")
	x := made(t, g).New()
	expects(t, g, x, "A B")
	push(t, g, x, "A C C")
	expects(t, g, x, "C")
	endless(t, x, api.ErrToken)
	state(t, x, 3, x.Stack()...)
}

// P20.2: rules with an empty right side take no states and make nodes without children, before any terminal and before the end.
func TestEmptyRules(t *testing.T) {
	g := grammar("A", "s t u", "s", "s : u t A t u", "t : u u", "u :")
	x := made(t, g).New()
	expects(t, g, x, "A")
	endless(t, x, api.ErrToken)
	if e := x.Push(1, 50); e != api.OK {
		t.Fatalf("A is refused: %d", e)
	}
	// u, then u, u and t, then the leaf.
	nodes(t, x, "{4 -1 2 []}", "{4 -1 2 []}", "{4 -1 2 []}", "{3 -1 1 [1 2]}", "{1 50 -1 []}")
	expects(t, g, x, "$")
	if text := finish(t, g, x); text != "(s (u) (t (u) (u)) A (t (u) (u)) (u))" || x.Steps() != 10 || len(x.Stack()) != 2 {
		t.Errorf("the tree is %s after %d steps in the states %v", text, x.Steps(), x.Stack())
	}
}

// P20.2: inputs without terminals, of grammars with and without some.
func TestEmptyInput(t *testing.T) {
	for _, x := range []struct {
		g              api.Gram
		expected, tree string
		steps          int
	}{
		{grammar("", "s", "s", "s :"), "$", "(s)", 1},
		{grammar("A", "s", "s", "s :", "s : A"), "$ A", "(s)", 1},
		{grammar("A", "s", "s", "s : s A", "s :"), "$ A", "(s)", 1},
		{grammar("", "s t u", "t", "t : u s s", "s :", "u : s"), "$", "(t (u (s)) (s) (s))", 5},
	} {
		y := made(t, x.g).New()
		expects(t, x.g, y, x.expected)
		state(t, y, 0, 0)
		if text := finish(t, x.g, y); text != x.tree || y.Steps() != x.steps {
			t.Errorf("%s: the tree is %s after %d steps", short(x.g), text, y.Steps())
		}
		over(t, x.g, y)
	}
	g := right()
	endless(t, made(t, g).New(), api.ErrToken)
}

// over demands that nothing can come after a parser is finished, and that nothing changes.
func over(t *testing.T, g api.Gram, x *drive.Engine) {
	t.Helper()
	before := dump(x)
	for range 2 {
		for term := range gram.Top(g) + 2 {
			refuses(t, x, term, api.ErrEnd)
		}
		for _, term := range extreme {
			refuses(t, x, term, api.ErrEnd)
		}
		endless(t, x, api.ErrEnd)
		expects(t, g, x, "")
	}
	if after := dump(x); after != before {
		t.Errorf("%s has become %s", before, after)
	}
}

// P20.2, P20.3: a finished parser accepts nothing more, even where its topmost state would.
func TestFinished(t *testing.T) {
	g := grammar("A", "s", "s", "s : s A", "s : A")
	x := fed(t, g, "A A")
	expects(t, g, x, "$ A")
	if text := finish(t, g, x); text != "(s (s A) A)" {
		t.Errorf("the tree is %s", text)
	}
	over(t, g, x)
	over(t, g, x.Twin())
	state(t, x, 4, 0, x.Stack()[1])
	nodes(t, x, "{1 0 -1 []}", "{2 -1 1 [0]}", "{1 1 -1 []}", "{2 -1 0 [1 2]}")
}

// P20.2: the end of input is refused where it cannot come, and accepted later.
func TestEndLater(t *testing.T) {
	g := grammar("A B", "s", "s", "s : A s B", "s : A B")
	x := made(t, g).New()
	for _, name := range strings.Fields("A A A B B") {
		endless(t, x, api.ErrToken)
		push(t, g, x, name)
	}
	endless(t, x, api.ErrToken)
	push(t, g, x, "B")
	expects(t, g, x, "$")
	if text := finish(t, g, x); text != "(s A (s A (s A B) B) B)" || x.Steps() != 9 {
		t.Errorf("the tree is %s after %d steps", text, x.Steps())
	}
}

// P20.2: a leaf may have any number, also one that another leaf has.
func TestLeafNumbers(t *testing.T) {
	g := grammar("A", "s", "s", "s : s A", "s :")
	x := made(t, g).New()
	numbers := append(slices.Clone(extreme), 0, 0, 1, 1, -1)
	for _, n := range numbers {
		if e := x.Push(1, n); e != api.OK {
			t.Fatalf("leaf %d is refused: %d", n, e)
		}
	}
	root, e := x.Finish()
	if e != api.OK || !slices.Equal(x.Tree().Leaves(root), numbers) {
		t.Errorf("the leaves are %v with the error %d", x.Tree().Leaves(root), e)
	}
}

// P20.3: Expected is in increasing order with the end of input ahead of all, however the rules stand.
func TestExpected(t *testing.T) {
	g := grammar("A B C D", "s t", "s", "s : t D", "s : C s", "s : B", "s :", "t : A")
	x := made(t, g).New()
	if list := x.Expected(); !slices.Equal(list, []int{0, 1, 2, 3}) {
		t.Errorf("%v can come", list)
	}
	push(t, g, x, "C")
	expects(t, g, x, "$ A B C")
	push(t, g, x, "A")
	expects(t, g, x, "D")
}

// P20.2, P20.3: to ask changes nothing, however often, also where it takes many reductions to answer.
func TestAsking(t *testing.T) {
	g := grammar("A B C D", "s t u v", "s", "s : A s", "s : t u v", "t : B", "u : C", "u :", "v : D", "v :")
	x := fed(t, g, "A A A B")
	before := dump(x)
	for range 3 {
		expects(t, g, x, "$ C D")
	}
	if after := dump(x); after != before {
		t.Errorf("%s has become %s", before, after)
	}
	state(t, x, 4, x.Stack()...)
	push(t, g, x, "D")
	state(t, x, 7, x.Stack()...)
	expects(t, g, x, "$")
	if text := finish(t, g, x); text != "(s A (s A (s A (s (t B) (u) (v D)))))" || x.Steps() != 12 {
		t.Errorf("the tree is %s after %d steps", text, x.Steps())
	}
}

// P20.3: a copy goes on apart from the first one, and the first one apart from the copy.
func TestTwin(t *testing.T) {
	g := grammar("A B C", "s t", "s", "s : A s C", "s : t", "t : t B", "t : B")
	x := fed(t, g, "A A B")
	y := x.Twin()
	before := dump(x)
	if dump(y) != before {
		t.Fatalf("%s has the copy %s", before, dump(y))
	}
	push(t, g, y, "C C")
	if text := finish(t, g, y); text != "(s A (s A (s (t B)) C) C)" {
		t.Errorf("the tree of the copy is %s", text)
	}
	if dump(x) != before {
		t.Errorf("%s has become %s", before, dump(x))
	}
	after := dump(y)
	push(t, g, x, "B B B C")
	z := x.Twin()
	push(t, g, x, "C")
	if text := finish(t, g, x); text != "(s A (s A (s (t (t (t (t B) B) B) B)) C) C)" {
		t.Errorf("the tree is %s", text)
	}
	if dump(y) != after {
		t.Errorf("%s has become %s", after, dump(y))
	}
	expects(t, g, z, "C")
	over(t, g, x)
	over(t, g, y)
	push(t, g, z, "C")
	if text := finish(t, g, z); text != "(s A (s A (s (t (t (t (t B) B) B) B)) C) C)" {
		t.Errorf("the tree of the second copy is %s", text)
	}
}

// P20.3: copies of one parser that go on in turn, each with other terminals, with all their states above the ones they have in common.
func TestTwinsInTurn(t *testing.T) {
	g := grammar("A B C", "s t", "s", "s : t s", "s : C", "t : A", "t : B")
	first := fed(t, g, "A B A")
	var list []*drive.Engine
	for range 8 {
		list = append(list, first.Twin())
	}
	for bit := range 3 {
		for k, x := range list {
			push(t, g, x, []string{"A", "B"}[k>>bit&1])
		}
	}
	for k, x := range list {
		push(t, g, x, "C")
		root, e := x.Finish()
		if want := []int{1, 2, 1, 1 + k&1, 1 + k>>1&1, 1 + k>>2, 3}; e != api.OK || !slices.Equal(x.Tree().Yield(root), want) {
			t.Errorf("copy %d has the terminals %v with the error %d, want %v", k, x.Tree().Yield(root), e, want)
		}
	}
	state(t, first, 5, first.Stack()...)
	if first.Tree().Len() != 5 {
		t.Errorf("the first one has %d nodes", first.Tree().Len())
	}
}

// P20.3: what is written to a list that Stack or Expected has returned does not reach the parser.
func TestOwnLists(t *testing.T) {
	g := right()
	x := fed(t, g, "A A")
	before := dump(x)
	for _, list := range [][]int{x.Stack(), x.Expected(), x.Stack()[:1]} {
		for i := range list {
			list[i] = -5
		}
		_ = append(list, -5)
	}
	if after := dump(x); after != before {
		t.Errorf("%s has become %s", before, after)
	}
}

// P20.3: Tree is the tree of the parser itself: it has the nodes that come later, and the copy of the parser has one of its own.
func TestTree(t *testing.T) {
	g := right()
	x := made(t, g).New()
	tree, other := x.Tree(), x.Twin().Tree()
	push(t, g, x, "A B")
	root, _ := x.Finish()
	if tree.Show(g, root) != "(s A (s B))" || tree.Len() != 4 || other.Len() != 0 {
		t.Errorf("the tree is %q with %d nodes, and the other one has %d", tree.Show(g, root), tree.Len(), other.Len())
	}
}

// P1: a tree that somebody else has changed has nodes that the parser cannot join any more, which is no reason to panic.
func TestTreeOfOthers(t *testing.T) {
	g := right()
	x := fed(t, g, "A A B")
	x.Tree().Join(3, 1, []int{1})
	x.Tree().Leaf(1, 1)
	if root, e := x.Finish(); root != -1 || e != api.OK {
		t.Errorf("the root is %d with the error %d", root, e)
	}
	if x.Steps() != 6 || x.Tree().Show(g, -1) != "" {
		t.Errorf("%d steps", x.Steps())
	}
	over(t, g, x)
}

// P1, P20.2, P20.3: many states, which are asked at each step, and are then removed one by one.
func TestDeep(t *testing.T) {
	const n = 100000
	for _, x := range []struct {
		g                 api.Gram
		first, last, tail int // the terminals, and how often the last one comes
		steps             int
	}{
		{right(), 1, 2, 1, 2*n + 2},
		{grammar("A B", "s", "s", "s : A s B", "s : A B"), 1, 2, n, 3 * n},
		{grammar("A B", "s t", "s", "s : s t B", "s :", "t : A"), 1, 2, 0, 0},
	} {
		y := made(t, x.g).New()
		for i := range n {
			if x.tail == 0 && i%2 == 1 {
				continue
			}
			if !y.Probe(x.first) || y.Push(x.first, i) != api.OK || len(y.Expected()) == 0 {
				t.Fatalf("%s: terminal %d is refused", short(x.g), i)
			}
			if x.tail == 0 && y.Push(x.last, i) != api.OK {
				t.Fatalf("%s: terminal %d is refused", short(x.g), i)
			}
		}
		for i := range x.tail {
			if !y.Probe(x.last) || y.Push(x.last, n+i) != api.OK || len(y.Expected()) == 0 {
				t.Fatalf("%s: terminal %d is refused", short(x.g), n+i)
			}
		}
		z := y.Twin()
		root, e := y.Finish()
		if e != api.OK || len(y.Stack()) != 2 || x.steps != 0 && y.Steps() != x.steps || y.Tree().Len() != y.Steps() {
			t.Errorf("%s: the root is %d with the error %d after %d steps in %d states", short(x.g), root, e, y.Steps(), len(y.Stack()))
		}
		if again, e := z.Finish(); again != root || e != api.OK || !y.Tree().Check(x.g, root) {
			t.Errorf("%s: the root of the copy is %d with the error %d", short(x.g), again, e)
		}
	}
}
