package item_test

import (
	"math"
	"slices"
	"strings"
	"testing"

	"conch/api"
	"conch/gram"
	"conch/item"
	"conch/sample"
)

// Short names: almost every test makes grammars.
var grammar, sized = sample.Grammar, sample.Sized

// items returns the items of texts parted by " | ", such as "s : t . A" or "$ : . s".
func items(g api.Gram, texts string) []api.Item {
	if texts == "" {
		return nil
	}
	var list []api.Item
	for _, text := range strings.Split(texts, " | ") {
		list = append(list, named(g, text))
	}
	return list
}

// named returns the item of a text. A test that names none is wrong itself.
func named(g api.Gram, text string) api.Item {
	for i := range len(g.Rules) + 1 {
		r, _ := gram.Rule(g, i)
		for dot := range len(r.Right) + 1 {
			if sample.Item(g, api.Item{Rule: i, Dot: dot}) == text {
				return api.Item{Rule: i, Dot: dot}
			}
		}
	}
	panic(text + " is no item")
}

// shown renders items.
func shown(g api.Gram, l []api.Item) string {
	var texts []string
	for _, x := range l {
		texts = append(texts, sample.Item(g, x))
	}
	return strings.Join(texts, " | ")
}

// same demands a list.
func same(t *testing.T, g api.Gram, what string, got []api.Item, want string) {
	t.Helper()
	if text := shown(g, got); text != want {
		t.Errorf("%s: %q, want %q", what, text, want)
	}
}

// plain is a grammar with an empty rule, a rule that leads to itself, and terminals in between.
func plain() api.Gram {
	return grammar("A B", "s t u", "s", "s : t A", "s : B", "t : u", "u :", "u : B t", "u : u A u")
}

// P12.1: the items of each rule, with the dot at each place, and with the dot before the beginning and behind the end.
func TestRight(t *testing.T) {
	g := plain()
	for i, length := range []int{2, 1, 1, 0, 2, 3, 1} {
		for dot := -3; dot <= length+3; dot++ {
			if got := item.Right(g, api.Item{Rule: i, Dot: dot}); got != (dot >= 0 && dot <= length) {
				t.Errorf("rule %d with %d symbols: the dot at %d is %t", i, length, dot, got)
			}
		}
	}
}

// strange are items of the grammar plain that are not valid.
func strange() []api.Item {
	var list []api.Item
	for _, n := range []int{-1, -2, -7, 7, 8, 14, 1 << 31, 1 << 32, 1<<32 + 1, math.MinInt, math.MinInt + 1, math.MaxInt - 1, math.MaxInt} {
		list = append(list, api.Item{Rule: n}, api.Item{Rule: n, Dot: 1}, api.Item{Rule: n, Dot: n}, api.Item{Rule: n, Dot: -n})
		for i := range 7 {
			list = append(list, api.Item{Rule: i, Dot: n})
		}
	}
	return append(list, api.Item{Rule: 0, Dot: 3}, api.Item{Rule: 1, Dot: 2}, api.Item{Rule: 3, Dot: 1}, api.Item{Rule: 5, Dot: 4}, api.Item{Rule: 6, Dot: 2})
}

// P12.1, P12.2: items that are not valid, each alone and among others.
func TestStrange(t *testing.T) {
	g := plain()
	all := items(g, "s : B . | u : u . A u | s : . t A")
	for _, x := range strange() {
		if s, ok := item.Behind(g, x); item.Right(g, x) || s != 0 || ok {
			t.Errorf("%v is no item, but has %d %t behind its dot", x, s, ok)
		}
		if c, k := item.Close(g, []api.Item{x}), item.Kernel(g, []api.Item{x}); len(c) != 0 || len(k) != 0 {
			t.Errorf("%v is no item, but Close is %v and Kernel is %v", x, c, k)
		}
		for s := -1; s <= gram.Top(g)+1; s++ {
			if k := item.Step(g, []api.Item{x, x}, s); len(k) != 0 {
				t.Errorf("%v is no item, but Step by %d is %v", x, s, k)
			}
		}
		all = append(all, x)
	}
	all = append(all, items(g, "$ : . s")...)
	for range 2 {
		same(t, g, "Close", item.Close(g, all), "s : . t A | s : . B | s : B . | t : . u | u : . | u : . B t | u : . u A u | u : u . A u | $ : . s")
		same(t, g, "Kernel", item.Kernel(g, all), "s : B . | u : u . A u | $ : . s")
		same(t, g, "Step by t", item.Step(g, all, 4), "s : t . A")
		same(t, g, "Step by A", item.Step(g, all, 1), "u : u A . u")
		same(t, g, "Step by s", item.Step(g, all, 3), "$ : s .")
		slices.Reverse(all)
	}
}

// P12.1: the symbol after the dot at each place, and none at the end.
func TestBehind(t *testing.T) {
	g := plain()
	for i, names := range []string{"t A", "B", "u", "", "B t", "u A u", "s"} {
		right := strings.Fields(names)
		for dot, name := range right {
			if s, ok := item.Behind(g, api.Item{Rule: i, Dot: dot}); !ok || s == 0 || gram.Name(g, s) != name {
				t.Errorf("rule %d, dot %d: %d %t, want %s", i, dot, s, ok, name)
			}
		}
		if s, ok := item.Behind(g, api.Item{Rule: i, Dot: len(right)}); s != 0 || ok {
			t.Errorf("rule %d, dot at the end: %d %t", i, s, ok)
		}
	}
}

// P12.1: the first item of grammars with different numbers of rules and with Start at different places.
func TestBegin(t *testing.T) {
	for _, g := range []api.Gram{plain(), grammar("", "s", "s", "s :"), grammar("A", "t s", "s", "s : t", "t : A"), sample.Valid()} {
		l := item.Begin(g)
		if !slices.Equal(l, []api.Item{{Rule: len(g.Rules)}}) {
			t.Fatalf("Begin is %v, the rules are %v", l, g.Rules)
		}
		if s, ok := item.Behind(g, l[0]); s != g.Start || !ok {
			t.Errorf("%d %t stands after the dot, want %d", s, ok, g.Start)
		}
		agree(t, g, l)
	}
}

// example is a grammar, a list of items, and what becomes of it.
type example struct {
	what    string
	g       api.Gram
	l, want string
}

// P12.1: closures.
func TestClose(t *testing.T) {
	two := grammar("A B", "s t", "s", "s : t A", "t : B")
	apart := grammar("A B C", "s t u v", "s", "s : A t B u", "t : A", "t : B t", "u : C", "u :", "v : t")
	for _, x := range []example{
		{"of the chapter", two, "s : . t A", "s : . t A | t : . B"},
		{"nothing", two, "", ""},
		{"a terminal after the dot", two, "s : t . A", "s : t . A"},
		{"the dot at the end", two, "s : t A .", "s : t A ."},
		{"a rule of a nonterminal after the dot is there already", two, "s : . t A | t : . B", "s : . t A | t : . B"},
		{"another item of that rule is there already", two, "s : . t A | t : B .", "s : . t A | t : . B | t : B ."},
		{"an item twice", two, "s : . t A | s : . t A", "s : . t A | t : . B"},
		{"an item twice, not side by side", two, "s : t . A | t : B . | s : t . A", "s : t . A | t : B ."},
		{"out of order, by rule", two, "t : B . | s : t A .", "s : t A . | t : B ."},
		{"out of order, by dot", two, "s : t A . | s : t . A", "s : t . A | s : t A ."},
		{"out of order, the rule counts first", two, "t : . B | s : t A .", "s : t A . | t : . B"},
		{"the augmented rule comes last", two, "$ : s . | t : B . | s : t . A", "s : t . A | t : B . | $ : s ."},
		{"the augmented rule at the beginning", two, "$ : . s", "s : . t A | t : . B | $ : . s"},
		{"the augmented rule at the end", two, "$ : s .", "$ : s ."},
		{"a nonterminal before the dot adds nothing", apart, "s : A t . B u", "s : A t . B u"},
		{"a nonterminal behind the next symbol adds nothing", apart, "s : . A t B u", "s : . A t B u"},
		{"only the one after the dot", apart, "s : A . t B u", "s : A . t B u | t : . A | t : . B t"},
		{"the last symbol", apart, "s : A t B . u", "s : A t B . u | u : . C | u : ."},
		{"several items", apart, "s : A . t B u | s : A t B . u", "s : A . t B u | s : A t B . u | t : . A | t : . B t | u : . C | u : ."},
		{"an unreachable one", apart, "v : . t", "t : . A | t : . B t | v : . t"},
		{"not the left side itself", apart, "t : B . t", "t : . A | t : . B t | t : B . t"},
	} {
		same(t, x.g, x.what, item.Close(x.g, items(x.g, x.l)), x.want)
		agree(t, x.g, items(x.g, x.l))
	}
}

// P12.1: closures in which nonterminals lead to others, to each other, or to themselves, and rules with empty right sides.
func TestCloseOfCircles(t *testing.T) {
	empty := grammar("A", "s t u", "s", "s : t u A", "t :", "u : A", "u :")
	for _, x := range []example{
		{"an empty right side", empty, "$ : . s", "s : . t u A | t : . | $ : . s"},
		{"one that can be empty does not let through what is behind it", empty, "s : . t u A", "s : . t u A | t : ."},
		{"the next one", empty, "s : t . u A", "s : t . u A | u : . A | u : ."},
		{"an empty right side alone", empty, "t : .", "t : ."},
		{"to itself", grammar("A", "s", "s", "s : s A", "s : A"), "$ : . s", "s : . s A | s : . A | $ : . s"},
		{"only to itself", grammar("A", "s", "s", "s : s"), "s : . s", "s : . s"},
		{"to itself, from the end of a rule", grammar("A", "s", "s", "s : A s", "s : s s"), "s : s . s", "s : . A s | s : . s s | s : s . s"},
		{"to itself behind a terminal", grammar("A", "s", "s", "s : A s", "s :"), "$ : . s", "s : . A s | s : . | $ : . s"},
		{"to each other", grammar("A B", "s t", "s", "s : t A", "t : s B"), "s : . t A", "s : . t A | t : . s B"},
		{"to each other, from the other one", grammar("A B", "s t", "s", "s : t A", "t : s B"), "t : . s B", "s : . t A | t : . s B"},
		{"to each other and out", grammar("A", "s t u", "s", "s : t", "t : s", "t : u A", "u : A"), "t : s . | $ : . s", "s : . t | t : . s | t : s . | t : . u A | u : . A | $ : . s"},
		{"three in a circle", grammar("A", "s t u v", "s", "s : t", "t : u", "u : s", "v : A"), "u : . s", "s : . t | t : . u | u : . s"},
		{"two ways to one", grammar("A", "s t u v", "s", "s : t", "s : u", "t : v", "u : v A", "v : A"), "$ : . s", "s : . t | s : . u | t : . v | u : . v A | v : . A | $ : . s"},
		{"with numbers that fall", grammar("A", "u t s", "s", "u : A", "t : u", "s : t"), "$ : . s", "u : . A | t : . u | s : . t | $ : . s"},
		{"Start on a right side", grammar("A B", "s t", "s", "s : A t", "t : s B"), "s : A . t", "s : . A t | s : A . t | t : . s B"},
	} {
		same(t, x.g, x.what, item.Close(x.g, items(x.g, x.l)), x.want)
		agree(t, x.g, items(x.g, x.l))
	}
}

// P12.2: steps, by the name of a symbol.
func TestStep(t *testing.T) {
	g := plain()
	repeated := grammar("A", "s", "s", "s : A A A", "s : s s")
	for _, x := range []struct {
		example
		by string
	}{
		{example{"a terminal", g, "s : . B | s : . t A", "s : B ."}, "B"},
		{example{"a nonterminal", g, "s : . B | s : . t A", "s : t . A"}, "t"},
		{example{"of several rules, out of order", g, "u : . B t | s : . B", "s : B . | u : B . t"}, "B"},
		{example{"in the middle", g, "u : u . A u | s : t . A", "s : t A . | u : u A . u"}, "A"},
		{example{"to the end", g, "u : u A . u | t : . u", "t : u . | u : u A u ."}, "u"},
		{example{"the augmented rule", g, "$ : . s", "$ : s ."}, "s"},
		{example{"the augmented rule behind its symbol", g, "$ : s .", ""}, "s"},
		{example{"an item twice", g, "t : . u | t : . u", "t : u ."}, "u"},
		{example{"an item twice, not side by side", g, "u : . u A u | t : . u | u : . u A u", "t : u . | u : u . A u"}, "u"},
		{example{"no item has it", g, "s : . B | t : u .", ""}, "A"},
		{example{"it stands before the dot", g, "s : B . | u : B . t", ""}, "B"},
		{example{"it stands behind the next symbol", g, "s : . t A", ""}, "A"},
		{example{"an empty right side", g, "u : .", ""}, "u"},
		{example{"nothing", g, "", ""}, "A"},
		{example{"nothing is added to it", g, "u : B . t", "u : B t ."}, "t"},
		{example{"once for each place", repeated, "s : A . A A | s : A A . A | s : . A A A", "s : A . A A | s : A A . A | s : A A A ."}, "A"},
		{example{"it is only moved once", repeated, "s : . A A A", "s : A . A A"}, "A"},
		{example{"the left side twice", repeated, "s : s . s | s : . s s | s : . A A A", "s : s . s | s : s s ."}, "s"},
	} {
		same(t, x.g, x.what, item.Step(x.g, items(x.g, x.l), gram.Find(x.g, x.by)), x.want)
		agree(t, x.g, items(x.g, x.l))
	}
}

// P12.2: symbols that stand behind no dot or are none.
func TestStepByNumbers(t *testing.T) {
	g := plain()
	all := every(g)
	for _, s := range []int{0, -1, 6, 7, -5, 1 << 31, 1 << 32, 1<<32 + 1, math.MinInt, math.MinInt + 1, math.MaxInt} {
		if k := item.Step(g, all, s); len(k) != 0 {
			t.Errorf("Step by %d is %v", s, k)
		}
	}
	unused := grammar("A B", "s t", "s", "s : A", "t : s")
	for _, name := range []string{"B", "t"} {
		if k := item.Step(unused, every(unused), gram.Find(unused, name)); len(k) != 0 {
			t.Errorf("Step by %s is %v", name, k)
		}
	}
}

// P12.2: kernels.
func TestKernel(t *testing.T) {
	g := plain()
	for _, x := range []example{
		{"nothing", g, "", ""},
		{"the dot at the beginning", g, "s : . B", ""},
		{"an empty right side", g, "u : .", ""},
		{"the dot in the middle", g, "s : t . A", "s : t . A"},
		{"the dot at the end", g, "s : B .", "s : B ."},
		{"the augmented rule at the beginning", g, "$ : . s", "$ : . s"},
		{"the augmented rule at the end", g, "$ : s .", "$ : s ."},
		{"the augmented rule with both dots", g, "$ : s . | $ : . s", "$ : . s | $ : s ."},
		{"an item twice", g, "t : u . | s : . B | t : u .", "t : u ."},
		{"out of order", g, "u : u A . u | $ : s . | t : . u | u : u . A u | s : t A .", "s : t A . | u : u . A u | u : u A . u | $ : s ."},
		{"nothing is added to it", g, "u : u A . u", "u : u A . u"},
		{"the last rule is not the augmented one", g, "u : . u A u | $ : . s", "$ : . s"},
	} {
		same(t, x.g, x.what, item.Kernel(x.g, items(x.g, x.l)), x.want)
		agree(t, x.g, items(x.g, x.l))
	}
}

// P12.3: a closure that Step did not make has a kernel that leads to less.
func TestKernelOfOthers(t *testing.T) {
	g := plain()
	c := item.Close(g, items(g, "s : . t A | s : B ."))
	same(t, g, "Close", c, "s : . t A | s : B . | t : . u | u : . | u : . B t | u : . u A u")
	same(t, g, "Kernel", item.Kernel(g, c), "s : B .")
	same(t, g, "Close of Kernel", item.Close(g, item.Kernel(g, c)), "s : B .")
}

// P12.1: grammars that are not valid, by each condition of chapter 6.
func TestInvalid(t *testing.T) {
	for _, x := range sample.Invalid() {
		list := []api.Item{{}, {Dot: 1}, {Rule: 1}, {Rule: 1, Dot: 1}, {Rule: len(x.G.Rules)}, {Rule: len(x.G.Rules), Dot: 1}}
		for _, y := range list {
			if s, ok := item.Behind(x.G, y); item.Right(x.G, y) || s != 0 || ok {
				t.Errorf("%s: %v has %d %t behind its dot", short(x.G), y, s, ok)
			}
		}
		if b, c, k := item.Begin(x.G), item.Close(x.G, list), item.Kernel(x.G, list); len(b) != 0 || len(c) != 0 || len(k) != 0 {
			t.Errorf("%s: Begin is %v, Close is %v, Kernel is %v", short(x.G), b, c, k)
		}
		for _, s := range []int{x.G.Start, -1, 0, 1, 2, 3, gram.Top(x.G)} {
			if k := item.Step(x.G, list, s); len(k) != 0 {
				t.Errorf("%s: Step by %d is %v", short(x.G), s, k)
			}
		}
	}
}

// The valid grammar that the invalid ones are made of has items.
func TestValid(t *testing.T) {
	g := sample.Valid()
	same(t, g, "Close", item.Close(g, item.Begin(g)), "s : . A | s : . t | t : . t | $ : . s")
	agree(t, g, every(g))
}

// P3: nil and empty lists are equivalent.
func TestNil(t *testing.T) {
	with := api.Gram{Terms: []string{}, Nons: []string{"s"}, Rules: []api.Rule{{Left: 1, Right: []int{}}}, Start: 1}
	without := api.Gram{Nons: []string{"s"}, Rules: []api.Rule{{Left: 1}}, Start: 1}
	for _, g := range []api.Gram{with, without} {
		for _, l := range [][]api.Item{nil, {}} {
			if len(item.Close(g, l))+len(item.Step(g, l, 1))+len(item.Kernel(g, l)) != 0 {
				t.Errorf("%v: items out of nothing", g)
			}
		}
		same(t, g, "Close", item.Close(g, item.Begin(g)), "s : . | $ : . s")
		if !item.Right(g, api.Item{}) || item.Right(g, api.Item{Dot: 1}) {
			t.Errorf("%v: the item of the empty rule", g)
		}
	}
}

// P4, P5: nobody modifies the arguments, whoever writes into the results changes nothing, and the results stay the same.
func TestShared(t *testing.T) {
	g := plain()
	l := items(g, "$ : . s | u : u . A u | s : . B | u : u . A u")
	calls := []func() []api.Item{
		func() []api.Item { return item.Begin(g) },
		func() []api.Item { return item.Close(g, l) },
		func() []api.Item { return item.Step(g, l, 1) },
		func() []api.Item { return item.Kernel(g, l) },
	}
	var before []string
	for _, call := range calls {
		before = append(before, shown(g, call()))
	}
	for i, call := range calls {
		got := call()
		for k := range got {
			got[k] = api.Item{Rule: -1, Dot: -1}
		}
		if again := shown(g, call()); again != before[i] || again == "" {
			t.Errorf("call %d: %q, then %q", i, before[i], again)
		}
	}
	if !gram.Same(g, plain()) || shown(g, l) != "$ : . s | u : u . A u | s : . B | u : u . A u" {
		t.Errorf("the arguments were modified: %v %v", g, l)
	}
}
