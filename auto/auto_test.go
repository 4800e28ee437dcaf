package auto_test

import (
	"iter"
	"math"
	"slices"
	"strconv"
	"strings"
	"testing"

	"conch/api"
	"conch/auto"
	"conch/gram"
	"conch/sample"
)

// A short name: almost every test makes grammars.
var grammar = sample.Grammar

// shown renders a state, such as "s : A . s | s : A s . ; A 1, s 2".
func shown(g api.Gram, x api.State) string {
	var items, trans []string
	for _, y := range x.Items {
		items = append(items, sample.Item(g, y))
	}
	for _, y := range x.Trans {
		trans = append(trans, gram.Name(g, y.Sym)+" "+strconv.Itoa(y.To))
	}
	return strings.TrimSpace(strings.Join(items, " | ") + " ; " + strings.Join(trans, ", "))
}

// same demands that the automaton of a grammar has just these states.
func same(t *testing.T, g api.Gram, want ...string) {
	t.Helper()
	l, e := auto.Build(g)
	if e != api.OK || len(l) != len(want) {
		t.Errorf("%s: %d states and error %d, want %d", short(g), len(l), e, len(want))
	}
	for i, x := range l[:min(len(l), len(want))] {
		if text := shown(g, x); text != want[i] {
			t.Errorf("%s: state %d is %q, want %q", short(g), i, text, want[i])
		}
	}
	holds(t, g)
}

// P13.1: the example of the chapter.
func TestExample(t *testing.T) {
	same(t, grammar("A B", "s", "s", "s : A s", "s : B"),
		"$ : . s ; A 1, B 2, s 3",
		"s : A . s ; A 1, B 2, s 4",
		"s : B . ;",
		"$ : s . ;",
		"s : A s . ;",
	)
}

// P13.1: a grammar with one rule, and the states that each has.
func TestOneRule(t *testing.T) {
	same(t, grammar("", "s", "s", "s :"), "$ : . s ; s 1", "$ : s . ;")
	same(t, grammar("", "s", "s", "s : s"), "$ : . s ; s 1", "s : s . | $ : s . ;")
	same(t, grammar("A", "s", "s", "s : A"), "$ : . s ; A 1, s 2", "s : A . ;", "$ : s . ;")
	same(t, grammar("A B", "s", "s", "s : B A"), "$ : . s ; B 1, s 2", "s : B . A ; A 3", "$ : s . ;", "s : B A . ;")
	same(t, grammar("A", "s", "s", "s : A A A"), "$ : . s ; A 1, s 2", "s : A . A A ; A 3", "$ : s . ;", "s : A A . A ; A 4", "s : A A A . ;")
	same(t, grammar("", "s", "s", "s : s s"), "$ : . s ; s 1", "s : s . s | $ : s . ; s 2", "s : s . s | s : s s . ; s 2")
}

// P13.1: several transitions lead to one state, from different states.
func TestManyToOne(t *testing.T) {
	// A stands at two places, and behind B and C the same can come.
	same(t, grammar("A B C", "s t", "s", "s : B t", "s : C t C", "t : A"),
		"$ : . s ; B 1, C 2, s 3",
		"s : B . t ; A 4, t 5",
		"s : C . t C ; A 4, t 6",
		"$ : s . ;",
		"t : A . ;",
		"s : B t . ;",
		"s : C t . C ; C 7",
		"s : C t C . ;",
	)
	// One kernel is a part of the other: they are different states.
	same(t, grammar("A B C", "s t", "s", "s : B t", "s : C t", "s : C A B", "t : A"),
		"$ : . s ; B 1, C 2, s 3",
		"s : B . t ; A 4, t 5",
		"s : C . t | s : C . A B ; A 6, t 7",
		"$ : s . ;",
		"t : A . ;",
		"s : B t . ;",
		"s : C A . B | t : A . ; B 8",
		"s : C t . ;",
		"s : C A B . ;",
	)
}

// P13.1: states that lead to themselves, and back to a state before them.
func TestCircles(t *testing.T) {
	same(t, grammar("A B", "s", "s", "s : A s B", "s : A s", "s :"),
		"$ : . s ; A 1, s 2",
		"s : A . s B | s : A . s ; A 1, s 3",
		"$ : s . ;",
		"s : A s . B | s : A s . ; B 4",
		"s : A s B . ;",
	)
	same(t, grammar("A B", "s t", "s", "s : A t", "t : B s", "t :"),
		"$ : . s ; A 1, s 2",
		"s : A . t ; B 3, t 4",
		"$ : s . ;",
		"t : B . s ; A 1, s 5",
		"s : A t . ;",
		"t : B s . ;",
	)
}

// P13.1: the states get their numbers by the states from which they are reached, and by the numbers of the symbols, not by the
// order of the rules nor in depth.
func TestNumbers(t *testing.T) {
	same(t, grammar("A B C D", "u t s", "s", "s : D D D", "s : t", "s : C", "t : A A", "u : B", "t : u u"),
		"$ : . s ; A 1, B 2, C 3, D 4, u 5, t 6, s 7",
		"t : A . A ; A 8",
		"u : B . ;",
		"s : C . ;",
		"s : D . D D ; D 9",
		"t : u . u ; B 2, u 10",
		"s : t . ;",
		"$ : s . ;",
		"t : A A . ;",
		"s : D D . D ; D 11",
		"t : u u . ;",
		"s : D D D . ;",
	)
	// The symbol with the greater number leads to the state that another one has reached before.
	same(t, grammar("A B", "s t", "t", "t : s A", "t : B", "s : B", "s : t"),
		"$ : . t ; B 1, s 2, t 3",
		"t : B . | s : B . ;",
		"t : s . A ; A 4",
		"s : t . | $ : t . ;",
		"t : s A . ;",
	)
}

// P13.1: the items of a state are in order, and so are its transitions, whatever the order of the rules.
func TestOrder(t *testing.T) {
	same(t, grammar("A B C", "s t", "s", "t : A C", "s : A B", "t : A", "s : t", "s : A A", "s : C", "s : B"),
		"$ : . s ; A 1, B 2, C 3, s 4, t 5",
		"t : A . C | s : A . B | t : A . | s : A . A ; A 6, B 7, C 8",
		"s : B . ;",
		"s : C . ;",
		"$ : s . ;",
		"s : t . ;",
		"s : A A . ;",
		"s : A B . ;",
		"t : A C . ;",
	)
	// Different dots of one rule in one state, and the augmented rule behind all.
	same(t, grammar("A", "s", "s", "s : s s A", "s : A", "s : s"),
		"$ : . s ; A 1, s 2",
		"s : A . ;",
		"s : s . s A | s : s . | $ : s . ; A 1, s 3",
		"s : s . s A | s : s s . A | s : s . ; A 4, s 3",
		"s : s s A . | s : A . ;",
	)
}

// P13.1: useless rules and symbols: what cannot be reached leads nowhere, and what has no word does.
func TestUseless(t *testing.T) {
	same(t, sample.Valid(),
		"$ : . s ; A 1, s 2, t 3",
		"s : A . ;",
		"$ : s . ;",
		"s : t . | t : t . ;",
	)
	same(t, grammar("A B", "u s t", "s", "u : s B", "s : A", "t : u"), "$ : . s ; A 1, s 2", "s : A . ;", "$ : s . ;")
}

// P13.1: grammars that are not valid, by each condition of chapter 6, have its error and no states.
func TestInvalid(t *testing.T) {
	for _, x := range sample.Invalid() {
		if l, e := auto.Build(x.G); len(l) != 0 || e != x.E {
			t.Errorf("%s: %d states with the error %d, want %d", short(x.G), len(l), e, x.E)
		}
	}
}

// P3: nil and empty lists are equivalent.
func TestNil(t *testing.T) {
	with := api.Gram{Terms: []string{}, Nons: []string{"s"}, Rules: []api.Rule{{Left: 1, Right: []int{}}}, Start: 1}
	without := api.Gram{Nons: []string{"s"}, Rules: []api.Rule{{Left: 1}}, Start: 1}
	for _, g := range []api.Gram{with, without} {
		same(t, g, "$ : . s ; s 1", "$ : s . ;")
	}
	for _, items := range [][]api.Item{nil, {}} {
		for _, l := range [][]api.State{nil, {}, {{Items: []api.Item{{}}}}} {
			if i := auto.Find(l, items); i != -1 {
				t.Errorf("Find(%v, %#v) is %d", l, items, i)
			}
		}
		for _, none := range [][]api.Item{nil, {}} {
			if i := auto.Find([]api.State{{Items: []api.Item{{}}}, {Items: none}, {}}, items); i != 1 {
				t.Errorf("Find(%#v) of a state with %#v is %d", items, none, i)
			}
		}
	}
	for _, l := range [][]api.State{nil, {}} {
		for _, i := range []int{-1, 0, 1} {
			if to, at := auto.Goto(l, i, 1), auto.Walk(l, i, nil); to != -1 || at != -1 {
				t.Errorf("no states: Goto is %d, Walk is %d", to, at)
			}
		}
		if i := auto.Find(l, []api.Item{{}}); i != -1 {
			t.Errorf("no states: Find is %d", i)
		}
	}
	for _, trans := range [][]api.Trans{nil, {}} {
		if l := []api.State{{Trans: trans}}; auto.Goto(l, 0, 0) != -1 || auto.Walk(l, 0, []int{}) != 0 || auto.Walk(l, 0, nil) != 0 {
			t.Errorf("no transitions: Goto is %d, Walk is %d", auto.Goto(l, 0, 0), auto.Walk(l, 0, nil))
		}
	}
}

// P13.1: items that no state has, though each has some of them or more, and the first one of several that have them.
func TestFind(t *testing.T) {
	a, b, c := api.Item{Rule: 1}, api.Item{Rule: 1, Dot: 2}, api.Item{Rule: 2, Dot: 1}
	l := []api.State{{Items: []api.Item{a, b}}, {Items: []api.Item{b}}, {Items: []api.Item{a, b, c}}, {Items: []api.Item{b}}, {Items: []api.Item{c}}}
	for _, x := range []struct {
		want  int
		items []api.Item
	}{
		{0, []api.Item{a, b}}, {1, []api.Item{b}}, {2, []api.Item{a, b, c}}, {4, []api.Item{c}},
		{-1, nil}, {-1, []api.Item{a}}, {-1, []api.Item{a, c}}, {-1, []api.Item{b, c}}, {-1, []api.Item{{Rule: 2, Dot: 2}}}, {-1, []api.Item{{Rule: 2}}},
		{-1, []api.Item{{Rule: 3, Dot: 1}}}, {-1, []api.Item{{Rule: -1, Dot: -1}}}, {-1, []api.Item{{Rule: math.MinInt, Dot: math.MaxInt}}},
		{-1, []api.Item{a, b, c, {Rule: 3}}}, {-1, []api.Item{{}, a, b}}, {-1, []api.Item{{Rule: 1 + 1<<16, Dot: 2}}}, {-1, []api.Item{{Rule: 1, Dot: 2 + 1<<8}}},
	} {
		if i := auto.Find(l, x.items); i != x.want {
			t.Errorf("Find(%v) is %d, want %d", x.items, i, x.want)
		}
	}
	l = append(l, api.State{Items: []api.Item{{Rule: math.MinInt, Dot: math.MaxInt}}}, api.State{}, api.State{Items: []api.Item{}})
	if i := auto.Find(l, []api.Item{{Rule: math.MinInt, Dot: math.MaxInt}}); i != 5 {
		t.Errorf("an item of extreme numbers: Find is %d", i)
	}
	if i := auto.Find(l, nil); i != 6 {
		t.Errorf("no items: Find is %d", i)
	}
}

// extremes are numbers that are neither states nor symbols.
var extremes = []int{-1, -2, math.MinInt, math.MinInt + 1, math.MaxInt, math.MaxInt - 1, 1 << 31, 1 << 32, 1<<32 + 1, -1 << 31}

// handmade are states as Build makes none: several transitions by one symbol, symbols out of order, and numbers that are no symbols.
func handmade() []api.State {
	return []api.State{
		{Trans: []api.Trans{{Sym: 5, To: 2}, {Sym: 1, To: 1}, {Sym: 1, To: 2}, {Sym: 5, To: 0}, {Sym: 0, To: 2}, {Sym: -3, To: 1}}},
		{},
		{Trans: []api.Trans{{Sym: math.MaxInt, To: 0}, {Sym: 2, To: 2}, {Sym: math.MinInt, To: 1}}},
	}
}

// P13.1: transitions, the first one of several by one symbol, and none.
func TestGoto(t *testing.T) {
	l := handmade()
	for _, x := range []struct{ i, s, want int }{
		{0, 5, 2}, {0, 1, 1}, {0, 0, 2}, {0, -3, 1}, {0, 2, -1}, {0, 3, -1}, {0, 4, -1}, {0, 6, -1}, {0, -1, -1},
		{1, 0, -1}, {1, 1, -1}, {1, 5, -1}, {1, -1, -1},
		{2, 2, 2}, {2, math.MaxInt, 0}, {2, math.MinInt, 1}, {2, 0, -1}, {2, 1, -1}, {2, 5, -1},
		{3, 1, -1}, {3, 5, -1}, {3, 2, -1}, {-1, 1, -1}, {-1, 5, -1}, {-1, 2, -1}, {-3, 1, -1},
	} {
		if to := auto.Goto(l, x.i, x.s); to != x.want {
			t.Errorf("Goto(%d, %d) is %d, want %d", x.i, x.s, to, x.want)
		}
	}
	for _, n := range extremes {
		for s := range 6 {
			if to := auto.Goto(l, n, s); to != -1 {
				t.Errorf("Goto(%d, %d) is %d", n, s, to)
			}
		}
		if to := auto.Goto(l, 1, n); to != -1 {
			t.Errorf("Goto(1, %d) is %d", n, to)
		}
	}
}

// P1, P6, P13.1: Goto returns a target as it is, while Walk is -1 for one that is not a state, wherever on the way it stands.
func TestTargets(t *testing.T) {
	for _, n := range append([]int{0, 1, 2, 3}, extremes...) {
		// Symbol 1 leads to n, and its second transition to a state does not count; 2 changes between the states; 3 is missing.
		l := []api.State{
			{Trans: []api.Trans{{Sym: 1, To: n}, {Sym: 1, To: 1}, {Sym: 2, To: 1}}},
			{Trans: []api.Trans{{Sym: 2, To: 0}, {Sym: 1, To: n}, {Sym: 1, To: 0}}},
		}
		want := -1
		if n == 0 || n == 1 {
			want = n
		}
		for i := range l {
			if to := auto.Goto(l, i, 1); to != n {
				t.Errorf("Goto(%d, 1) is %d, want %d", i, to, n)
			}
			for _, way := range [][]int{{1}, {2, 1}, {2, 2, 1}, {1, 1}, {1, 1, 1}, {2, 1, 1}, {1, 2, 1}, {1, 2, 2}, {1, 2, 2, 1}} {
				if at := auto.Walk(l, i, way); at != want {
					t.Errorf("symbol 1 leads to %d: Walk(%d, %v) is %d, want %d", n, i, way, at, want)
				}
			}
			for _, way := range [][]int{{3}, {1, 3}, {3, 1}, {2, 3, 1}, {2, 1, 3}} {
				if at := auto.Walk(l, i, way); at != -1 {
					t.Errorf("symbol 1 leads to %d: Walk(%d, %v) is %d", n, i, way, at)
				}
			}
			if at := auto.Walk(l, i, nil); at != i {
				t.Errorf("symbol 1 leads to %d: Walk(%d) is %d", n, i, at)
			}
		}
	}
}

// P6, P13.1: all short ways through one to three states with all targets, among them numbers just below and just behind the states.
func TestAllTargets(t *testing.T) {
	walks, reached := 0, 0
	for n := 1; n <= 3; n++ {
		for targets := range tuples(2*n, n+3) {
			l := make([]api.State, n)
			for k, to := range targets {
				l[k/2].Trans = append(l[k/2].Trans, api.Trans{Sym: k % 2, To: to - 2})
			}
			for length := range 4 {
				for way := range tuples(length, 2) {
					for i := -2; i < n+2; i++ {
						want := arrives(targets, n, i, way)
						if at := auto.Walk(l, i, way); at != want {
							t.Fatalf("%v: Walk(%d, %v) is %d, want %d", l, i, way, at, want)
						}
						walks++
						reached += min(want, 0) + 1
					}
				}
			}
		}
	}
	if walks < 100000 || reached < 10000 || reached == walks {
		t.Errorf("%d ways, %d of them to states", walks, reached)
	}
}

// arrives goes a way of the symbols 0 and 1 through n states whose targets, two for each state, are stored with 2 added; whatever
// is not a state leads to -1 at once.
func arrives(targets []int, n, i int, way []int) int {
	switch {
	case i < 0 || i >= n:
		return -1
	case len(way) == 0:
		return i
	}
	return arrives(targets, n, targets[2*i+way[0]]-2, way[1:])
}

// tuples yields all lists of that length of the numbers below top.
func tuples(length, top int) iter.Seq[[]int] {
	return func(yield func([]int) bool) {
		list := make([]int, length)
		for {
			if !yield(list) {
				return
			}
			k := 0
			for k < length && list[k] == top-1 {
				list[k] = 0
				k++
			}
			if k == length {
				return
			}
			list[k]++
		}
	}
}

// P13.1: ways, the empty one, those on which a transition is missing, and those from what is not a state.
func TestWalk(t *testing.T) {
	l := handmade()
	for _, x := range []struct {
		i, want int
		way     []int
	}{
		{0, 0, nil}, {1, 1, nil}, {2, 2, nil}, {0, 2, []int{5}}, {0, 1, []int{1}}, {0, 2, []int{0}}, {0, 1, []int{-3}},
		{0, 2, []int{5, 2}}, {0, 2, []int{5, 2, 2, 2}}, {0, 0, []int{5, math.MaxInt}}, {0, 1, []int{5, math.MaxInt, 1}}, {2, 1, []int{2, math.MinInt}}, {2, 2, []int{math.MaxInt, 5}},
		{0, -1, []int{2}}, {0, -1, []int{2, 5}}, {0, -1, []int{5, 5}}, {0, -1, []int{5, 5, 5}}, {0, -1, []int{1, 1}}, {0, -1, []int{5, 2, 1}}, {0, -1, []int{3, 5, 2}}, {1, -1, []int{1}}, {1, -1, []int{0}}, {2, -1, []int{5}},
		{3, -1, nil}, {-1, -1, nil}, {3, -1, []int{1}}, {-1, -1, []int{5}}, {-1, -1, []int{1, 1}}, {-2, -1, nil}, {4, -1, nil},
	} {
		if at := auto.Walk(l, x.i, x.way); at != x.want {
			t.Errorf("Walk(%d, %v) is %d, want %d", x.i, x.way, at, x.want)
		}
	}
	for _, n := range extremes {
		for _, way := range [][]int{nil, {}, {1}, {5, 2}, {n}} {
			if at := auto.Walk(l, n, way); at != -1 {
				t.Errorf("Walk(%d, %v) is %d", n, way, at)
			}
		}
		if at := auto.Walk(l, 1, []int{n}); at != -1 {
			t.Errorf("Walk(1, %d) is %d", n, at)
		}
	}
}

// P1, P13.1: a long way, with and without a missing transition.
func TestLongWay(t *testing.T) {
	l := handmade()
	way := slices.Repeat([]int{5, math.MaxInt, 5, 2, 2, math.MaxInt}, 1<<18)
	if at := auto.Walk(l, 0, way); at != 0 {
		t.Errorf("Walk is %d", at)
	}
	for _, k := range []int{0, 1, len(way) / 2, len(way) - 1} {
		missed := slices.Clone(way)
		missed[k] = 3
		if at := auto.Walk(l, 0, missed); at != -1 {
			t.Errorf("without the transition number %d Walk is %d", k, at)
		}
	}
}

// P4, P5: nobody modifies the arguments, whoever writes into the results changes nothing, and the results stay the same.
func TestShared(t *testing.T) {
	plain := func() api.Gram { return grammar("A B", "s t", "s", "s : A t", "t : s B", "t :", "s : B s") }
	g := plain()
	l, _ := auto.Build(g)
	before := text(l)
	for i := range l {
		for k := range l[i].Items {
			l[i].Items[k] = api.Item{Rule: -1, Dot: -1}
			for m := range l {
				if m != i && strings.Contains(text(l[m:m+1]), "-1") {
					t.Errorf("states %d and %d share their items", i, m)
				}
			}
		}
		for k := range l[i].Trans {
			l[i].Trans[k] = api.Trans{Sym: -1, To: -1}
		}
		l[i] = api.State{}
	}
	if again, _ := auto.Build(g); text(again) != before || !gram.Same(g, plain()) {
		t.Errorf("then %s of %v, before %s", text(again), g, before)
	}
	l, _ = auto.Build(g)
	way := []int{1, 3, 2}
	auto.Find(l, l[2].Items)
	auto.Goto(l, 0, 1)
	auto.Walk(l, 0, way)
	if text(l) != before || !slices.Equal(way, []int{1, 3, 2}) {
		t.Errorf("the arguments were modified: %s %v", text(l), way)
	}
}
