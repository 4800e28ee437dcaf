package gram_test

import (
	"fmt"
	"math"
	"regexp"
	"slices"
	"strconv"
	"strings"
	"testing"

	"conch/api"
	"conch/gram"
)

// small is a valid grammar: A is 1, ';' is 2, s is 3 and t is 4.
func small() api.Gram {
	return api.Gram{
		Terms: []string{"A", "';'"},
		Nons:  []string{"s", "t"},
		Rules: []api.Rule{rule(3, 1, 4), rule(4), rule(4, 4, 2)},
		Start: 3,
	}
}

func rule(left int, right ...int) api.Rule {
	return api.Rule{Left: left, Right: right}
}

// names returns n different names that begin with the same letter.
func names(letter string, n int) []string {
	var list []string
	for i := range n {
		list = append(list, letter+strconv.Itoa(i))
	}
	return list
}

// sized returns a grammar of that size, which is valid if there are as many rules as nonterminals.
func sized(terms, nons, rules int) api.Gram {
	g := api.Gram{Terms: names("T", terms), Nons: names("n", nons), Start: terms + 1}
	for i := range rules {
		g.Rules = append(g.Rules, api.Rule{Left: terms + 1 + i%nons, Right: digits(i/nons, terms)})
	}
	return g
}

// digits returns another right side for each n.
func digits(n, terms int) []int {
	var list []int
	for ; n > 0 && terms > 0; n = (n - 1) / terms {
		list = append(list, (n-1)%terms+1)
	}
	return list
}

// show renders a grammar so that no two that differ look alike; nil and empty lists do.
func show(g api.Gram) string {
	var b strings.Builder
	fmt.Fprintf(&b, "%q %q start %d", g.Terms, g.Nons, g.Start)
	for _, r := range g.Rules {
		fmt.Fprintf(&b, " %d:%v", r.Left, r.Right)
	}
	return b.String()
}

// twin returns a copy that shares nothing with g.
func twin(g api.Gram) api.Gram {
	c := api.Gram{Terms: slices.Clone(g.Terms), Nons: slices.Clone(g.Nons), Start: g.Start, Rules: slices.Clone(g.Rules)}
	for i := range c.Rules {
		c.Rules[i].Right = slices.Clone(c.Rules[i].Right)
	}
	return c
}

var (
	nameForm   = regexp.MustCompile(`^[A-Za-z_][A-Za-z_0-9]{0,23}$`)
	quotedForm = regexp.MustCompile(`^'[!-&(-~]{1,22}'$`)
)

// wrongs returns all errors of P6.1 that apply to g, in the order in which the chapter names them.
// Each is looked for as if there were no others.
func wrongs(g api.Gram) []api.Errno {
	t, n := len(g.Terms), len(g.Nons)
	var many, form, name, arg, twice, none bool
	many = t > 120 || n > 120 || len(g.Rules) > 300
	all := map[string]bool{}
	for _, s := range g.Terms {
		form = form || !nameForm.MatchString(s) && !quotedForm.MatchString(s)
		name = name || all[s]
		all[s] = true
	}
	for _, s := range g.Nons {
		form = form || !nameForm.MatchString(s)
		name = name || all[s]
		all[s] = true
	}
	arg = n == 0 || g.Start <= t || g.Start > t+n
	rules, lefts := map[string]bool{}, map[int]bool{}
	for _, r := range g.Rules {
		many = many || len(r.Right) > 8
		arg = arg || r.Left <= t || r.Left > t+n
		for _, s := range r.Right {
			arg = arg || s <= 0 || s > t+n
		}
		text := fmt.Sprint(r.Left, r.Right)
		twice = twice || rules[text]
		rules[text], lefts[r.Left] = true, true
	}
	for s := t + 1; s <= t+n; s++ {
		none = none || !lefts[s]
	}
	var list []api.Errno
	for _, x := range []struct {
		wrong bool
		e     api.Errno
	}{{many, api.ErrMany}, {form, api.ErrForm}, {name, api.ErrTwice}, {arg, api.ErrArg}, {twice, api.ErrTwice}, {none, api.ErrNone}} {
		if x.wrong {
			list = append(list, x.e)
		}
	}
	return list
}

// ordered is Ordered by other means: the order of first occurrence, put together and compared.
func ordered(g api.Gram) bool {
	var first, all []int
	for s := len(g.Terms) + 1; s <= len(g.Terms)+len(g.Nons); s++ {
		all = append(all, s)
	}
	for _, r := range g.Rules {
		if slices.Contains(all, r.Left) && !slices.Contains(first, r.Left) {
			first = append(first, r.Left)
		}
	}
	for _, s := range all {
		if !slices.Contains(first, s) {
			first = append(first, s)
		}
	}
	return slices.Equal(first, all)
}

// symbols are the numbers that calls are asked with: those of symbols, those beside them, and extreme ones.
func symbols(g api.Gram) []int {
	list := []int{math.MinInt, math.MinInt32, -2, -1, math.MaxInt32, math.MaxInt - 1, math.MaxInt}
	for s := 0; s <= len(g.Terms)+len(g.Nons)+2; s++ {
		list = append(list, s)
	}
	return append(list, g.Start)
}

// agree asks everything about g, and compares it with what the chapter says.
func agree(t *testing.T, g api.Gram) {
	t.Helper()
	before := show(g)
	want := api.OK
	if list := wrongs(g); len(list) > 0 {
		want = list[0]
	}
	if e := gram.Check(g); e != want {
		t.Errorf("Check is %d, want %d: %.300s", e, want, before)
	}
	agreeSymbols(t, g)
	agreeRules(t, g)
	if got := gram.Ordered(g); got != ordered(g) {
		t.Errorf("Ordered is %t: %.300s", got, before)
	}
	if !gram.Same(g, g) || !gram.Same(g, twin(g)) || !gram.Same(twin(g), g) {
		t.Errorf("a grammar is not the same as its twin: %.300s", before)
	}
	if show(g) != before {
		t.Errorf("the grammar was modified: %.300s", before)
	}
}

// agreeSymbols asks everything about the symbols of g.
func agreeSymbols(t *testing.T, g api.Gram) {
	t.Helper()
	all := append(append([]string{"$"}, g.Terms...), g.Nons...)
	if got := gram.Top(g); got != len(all)-1 {
		t.Errorf("Top is %d, want %d", got, len(all)-1)
	}
	for _, s := range symbols(g) {
		name, term, non := "", false, false
		if s >= 0 && s < len(all) {
			name, term, non = all[s], s >= 1 && s <= len(g.Terms), s > len(g.Terms)
		}
		if got := gram.Name(g, s); got != name {
			t.Errorf("Name of %d is %q, want %q", s, got, name)
		}
		if gram.Term(g, s) != term || gram.Non(g, s) != non {
			t.Errorf("Term and Non of %d are %t, %t, want %t, %t", s, gram.Term(g, s), gram.Non(g, s), term, non)
		}
		var of []int
		for i := range g.Rules {
			if g.Rules[i].Left == s {
				of = append(of, i)
			}
		}
		if got := gram.Of(g, s); !slices.Equal(got, of) {
			t.Errorf("Of %d is %v, want %v", s, got, of)
		}
	}
	for _, name := range append(all, "", "$", "absent", "A ", "a") {
		if got, want := gram.Find(g, name), 1+slices.Index(all[1:], name); got != want {
			t.Errorf("Find(%q) is %d, want %d", name, got, want)
		}
	}
}

// agreeRules asks for all rules of g, and for what is ahead of them and behind them.
func agreeRules(t *testing.T, g api.Gram) {
	t.Helper()
	n := len(g.Rules)
	for i := range n + 1 {
		want := rule(0, g.Start)
		if i < n {
			want = g.Rules[i]
		}
		if r, ok := gram.Rule(g, i); !ok || r.Left != want.Left || !slices.Equal(r.Right, want.Right) {
			t.Errorf("Rule(%d) is %v, %t, want %v", i, r, ok, want)
		}
	}
	for _, i := range []int{math.MinInt, math.MinInt32, -n - 1, -2, -1, n + 1, n + 2, math.MaxInt32, math.MaxInt} {
		if r, ok := gram.Rule(g, i); ok || r.Left != 0 || r.Right != nil {
			t.Errorf("Rule(%d) is %v, %t, but there are %d rules", i, r, ok, n)
		}
	}
}

// accept checks a grammar that must be valid.
func accept(t *testing.T, what string, g api.Gram) {
	t.Helper()
	if e := gram.Check(g); e != api.OK {
		t.Errorf("%s: Check is %d", what, e)
	}
	agree(t, g)
}

// refuse checks a grammar in which that error is the first one.
func refuse(t *testing.T, what string, g api.Gram, want api.Errno) {
	t.Helper()
	if e := gram.Check(g); e != want {
		t.Errorf("%s: Check is %d, want %d", what, e, want)
	}
	agree(t, g)
}

// with returns small after a change.
func with(change func(g *api.Gram)) api.Gram {
	g := small()
	change(&g)
	return g
}

// fault is something that can be wrong with a grammar, whatever else is.
type fault struct {
	what string
	e    api.Errno
	rank int
	add  func(g *api.Gram)
}

// wide is a valid grammar with room for all faults at once: A to D are 1 to 4, s to w are 5 to 9.
func wide() api.Gram {
	return api.Gram{
		Terms: []string{"A", "B", "C", "D"},
		Nons:  []string{"s", "t", "u", "v", "w"},
		Rules: []api.Rule{rule(5, 6, 7), rule(6), rule(7, 1), rule(8, 2), rule(9, 9, 3)},
		Start: 5,
	}
}

// faults are the errors of P6.1 in the order of the chapter; those of one rank are named together.
// None of them removes another one.
func faults() []fault {
	more := func(g *api.Gram, left int, right ...int) { g.Rules = append(g.Rules, rule(left, right...)) }
	return []fault{
		{"terminals", api.ErrMany, 1, func(g *api.Gram) { moreTerms(g, api.MaxTerms+1-len(g.Terms)) }},
		{"nonterminals", api.ErrMany, 1, func(g *api.Gram) {
			for _, s := range names("n", api.MaxNons+1-len(g.Nons)) {
				g.Nons = append(g.Nons, s)
				more(g, len(g.Terms)+len(g.Nons))
			}
		}},
		{"rules", api.ErrMany, 1, func(g *api.Gram) {
			for i := len(g.Rules); i <= api.MaxRules; i++ {
				more(g, 8, append([]int{4, 4}, digits(i, 4)...)...)
			}
		}},
		{"right side", api.ErrMany, 1, func(g *api.Gram) { more(g, 8, slices.Repeat([]int{1}, api.MaxRight+1)...) }},
		{"form of a terminal", api.ErrForm, 2, func(g *api.Gram) { g.Terms[0] = "x y" }},
		{"form of a nonterminal", api.ErrForm, 2, func(g *api.Gram) { g.Nons[0] = "'x'" }},
		{"two terminals", api.ErrTwice, 3, func(g *api.Gram) { g.Terms[1] = g.Terms[2] }},
		{"two nonterminals", api.ErrTwice, 3, func(g *api.Gram) { g.Nons[1] = g.Nons[2] }},
		{"a terminal and a nonterminal", api.ErrTwice, 3, func(g *api.Gram) { g.Terms[3] = g.Nons[3] }},
		{"Start", api.ErrArg, 4, func(g *api.Gram) { g.Start = 2 }},
		{"a left side", api.ErrArg, 4, func(g *api.Gram) { more(g, 1, 4) }},
		{"a symbol on a right side", api.ErrArg, 4, func(g *api.Gram) { more(g, 9, 1, 0) }},
		{"two rules", api.ErrTwice, 5, func(g *api.Gram) { more(g, 6) }},
		{"no rule", api.ErrNone, 6, func(g *api.Gram) { g.Nons = append(g.Nons, "without") }},
	}
}

// moreTerms adds n terminals; the nonterminals have greater numbers from then on.
func moreTerms(g *api.Gram, n int) {
	old := len(g.Terms)
	move := func(s int) int {
		if s > old {
			return s + n
		}
		return s
	}
	g.Terms = append(g.Terms, names("T", n)...)
	g.Start = move(g.Start)
	for i, r := range g.Rules {
		g.Rules[i].Left = move(r.Left)
		for k, s := range r.Right {
			r.Right[k] = move(s)
		}
	}
}

// P6.1: ordinary grammars are valid.
func TestValid(t *testing.T) {
	accept(t, "small", small())
	accept(t, "one empty rule", api.Gram{Nons: []string{"s"}, Rules: []api.Rule{rule(1)}, Start: 1})
	accept(t, "no terminals", api.Gram{Nons: []string{"s", "t"}, Rules: []api.Rule{rule(1, 2), rule(2, 1)}, Start: 2})
	accept(t, "a rule of its own left side", api.Gram{Nons: []string{"s"}, Rules: []api.Rule{rule(1, 1)}, Start: 1})
	accept(t, "not ordered", with(func(g *api.Gram) { slices.Reverse(g.Rules) }))
	accept(t, "start is not the first one", with(func(g *api.Gram) { g.Start = 4 }))
	accept(t, "equal right sides", with(func(g *api.Gram) { g.Rules = append(g.Rules, rule(3), rule(3, 4, 2)) }))
	accept(t, "rules that begin alike", with(func(g *api.Gram) { g.Rules = append(g.Rules, rule(3, 1), rule(3, 1, 4, 4), rule(3, 4, 1)) }))
	accept(t, "a name, and the same one in quotes", with(func(g *api.Gram) { g.Terms = []string{"A", "'A'"} }))
	accept(t, "names that differ in one letter", with(func(g *api.Gram) { g.Terms, g.Nons = []string{"S", "T"}, []string{"s", "t"} }))
}

// P6.1: each limit may be reached.
func TestLargest(t *testing.T) {
	if api.MaxTerms != 120 || api.MaxNons != 120 || api.MaxRules != 300 || api.MaxRight != 8 || api.MaxName != 24 {
		t.Fatal("the limits are not those of the document")
	}
	accept(t, "terminals", sized(api.MaxTerms, 1, 1))
	accept(t, "nonterminals", sized(0, api.MaxNons, api.MaxNons))
	accept(t, "rules", sized(9, 1, api.MaxRules))
	accept(t, "all", sized(api.MaxTerms, api.MaxNons, api.MaxRules))
	accept(t, "right side", with(func(g *api.Gram) { g.Rules[0].Right = slices.Repeat([]int{4}, api.MaxRight) }))
	full := sized(api.MaxTerms, api.MaxNons, api.MaxRules)
	for i := range full.Rules {
		full.Rules[i].Right = append(slices.Repeat([]int{240}, api.MaxRight-2), i%240+1, i/240+1)
	}
	accept(t, "all right sides", full)
}

// P6.1: one more than each limit is ErrMany.
func TestTooMany(t *testing.T) {
	refuse(t, "terminals", sized(api.MaxTerms+1, 1, 1), api.ErrMany)
	refuse(t, "nonterminals", sized(0, api.MaxNons+1, api.MaxNons+1), api.ErrMany)
	refuse(t, "rules", sized(9, 1, api.MaxRules+1), api.ErrMany)
	for i := range 3 {
		refuse(t, "right side", with(func(g *api.Gram) { g.Rules[i].Right = slices.Repeat([]int{4}, api.MaxRight+1) }), api.ErrMany)
	}
	refuse(t, "terminals only", api.Gram{Terms: names("T", api.MaxTerms+1)}, api.ErrMany)
	refuse(t, "rules only", api.Gram{Rules: make([]api.Rule, api.MaxRules+1)}, api.ErrMany)
	refuse(t, "terminals without names", api.Gram{Terms: make([]string, api.MaxTerms+1)}, api.ErrMany)
	if e := gram.Check(api.Gram{Terms: make([]string, 1<<20), Nons: make([]string, 1<<20), Rules: make([]api.Rule, 1<<20)}); e != api.ErrMany {
		t.Errorf("Check of a huge grammar is %d", e)
	}
}

// P6.1: terminals have names or are quoted, nonterminals have names; both are at most as long as MaxName.
func TestForms(t *testing.T) {
	term := func(s string) api.Gram { return with(func(g *api.Gram) { g.Terms[1] = s }) }
	non := func(s string) api.Gram { return with(func(g *api.Gram) { g.Nons[1] = s }) }
	longest := strings.Repeat("x", api.MaxName)
	for _, s := range []string{"a", "_", "Z9", "a_1", "s1", "__", longest, "_" + longest[1:], longest[1:] + "9"} {
		accept(t, s, term(s))
		accept(t, s, non(s))
	}
	for _, s := range []string{"'a'", "'&&'", "'!'", "'~'", "'s'", "'" + longest[2:] + "'"} {
		accept(t, s, term(s))
		refuse(t, s, non(s), api.ErrForm)
	}
	for _, s := range []string{
		"", " ", "1", "1a", "a b", " a", "a ", "a-b", "$", "a$", "é", "a\x00", "\x00", "\n", "a\n", "\xff",
		"'", "''", "'''", "'a", "a'", "'a b'", "'a''b'", "'a'b", " 'a'", "'a' ", "'\x7f'", "'é'", "\"a\"", "%token", "%%", ":", "/**/", "/**/a",
		longest + "x", longest + longest, "'" + longest[1:] + "'", "'" + longest + "'", longest + " ", strings.Repeat("x", 1<<16),
	} {
		refuse(t, s, term(s), api.ErrForm)
		refuse(t, s, non(s), api.ErrForm)
	}
}

// P6.1: the names of all symbols are different, wherever they stand.
func TestNamesTwice(t *testing.T) {
	g := sized(4, 4, 4)
	for i := range 8 {
		for k := range i {
			x := twin(g)
			name := gram.Name(g, k+1)
			if i < 4 {
				x.Terms[i] = name
			} else {
				x.Nons[i-4] = name
			}
			refuse(t, fmt.Sprint("names ", k, i), x, api.ErrTwice)
		}
	}
	refuse(t, "quoted", with(func(g *api.Gram) { g.Terms[0] = g.Terms[1] }), api.ErrTwice)
	refuse(t, "three times", with(func(g *api.Gram) { g.Terms, g.Nons = []string{"n", "n"}, []string{"s", "n"} }), api.ErrTwice)
	longest := strings.Repeat("x", api.MaxName)
	refuse(t, "longest", with(func(g *api.Gram) { g.Terms[0], g.Nons[1] = longest, longest }), api.ErrTwice)
	accept(t, "not quite the same", with(func(g *api.Gram) { g.Terms[0], g.Nons[1] = longest, longest[1:]+"y" }))
}

// P6.1: Start and left sides are nonterminals, and right sides consist of symbols other than 0.
func TestNumbers(t *testing.T) {
	for _, s := range symbols(small()) {
		start := with(func(g *api.Gram) { g.Start = s })
		left := with(func(g *api.Gram) { g.Rules = append(g.Rules, rule(s, 1, 1)) })
		if s == 3 || s == 4 {
			accept(t, fmt.Sprint("Start ", s), start)
			accept(t, fmt.Sprint("left side ", s), left)
		} else {
			refuse(t, fmt.Sprint("Start ", s), start, api.ErrArg)
			refuse(t, fmt.Sprint("left side ", s), left, api.ErrArg)
		}
		for k := range 3 {
			right := with(func(g *api.Gram) { g.Rules[0].Right = []int{1, 2, 4}; g.Rules[0].Right[k] = s })
			if s >= 1 && s <= 4 {
				accept(t, fmt.Sprint("right side ", s), right)
			} else {
				refuse(t, fmt.Sprint("right side ", s), right, api.ErrArg)
			}
		}
	}
}

// P6.1: a grammar has a nonterminal.
func TestNoNonterminal(t *testing.T) {
	for _, s := range []int{-1, 0, 1, 2, 3} {
		refuse(t, "empty", api.Gram{Start: s}, api.ErrArg)
		refuse(t, "terminals only", api.Gram{Terms: []string{"A", "B"}, Start: s}, api.ErrArg)
		refuse(t, "a rule", api.Gram{Terms: []string{"A", "B"}, Start: s, Rules: []api.Rule{rule(s, 1)}}, api.ErrArg)
		refuse(t, "two rules", api.Gram{Start: s, Rules: []api.Rule{{}, {}}}, api.ErrArg)
	}
}

// P6.1: no two rules are equal, wherever they stand.
func TestRulesTwice(t *testing.T) {
	for i := range 3 {
		again := small().Rules[i]
		for k := range 4 {
			refuse(t, "two rules", with(func(g *api.Gram) { g.Rules = slices.Insert(g.Rules, k, again) }), api.ErrTwice)
		}
	}
	refuse(t, "nil and empty", with(func(g *api.Gram) { g.Rules = append(g.Rules, api.Rule{Left: 4, Right: []int{}}) }), api.ErrTwice)
	full := sized(9, 1, api.MaxRules)
	full.Rules[api.MaxRules-1] = full.Rules[0]
	refuse(t, "the first and the last one", full, api.ErrTwice)
	long := with(func(g *api.Gram) {
		for i := range 2 {
			g.Rules = append(g.Rules, rule(3, 1, 1, 1, 1, 1, 1, 1, i+1))
		}
	})
	accept(t, "all but the last symbol", long)
	long.Rules[4].Right[7] = 1
	refuse(t, "the last symbol too", long, api.ErrTwice)
}

// P6.1: each nonterminal has a rule; that it occurs on a right side does not help.
func TestNoRule(t *testing.T) {
	refuse(t, "the first", with(func(g *api.Gram) { g.Rules = g.Rules[1:] }), api.ErrNone)
	refuse(t, "the last", with(func(g *api.Gram) { g.Rules = g.Rules[:1] }), api.ErrNone)
	refuse(t, "one more", with(func(g *api.Gram) { g.Nons = append(g.Nons, "u") }), api.ErrNone)
	refuse(t, "no rules", with(func(g *api.Gram) { g.Rules = nil }), api.ErrNone)
	refuse(t, "Start", with(func(g *api.Gram) { g.Nons, g.Start = append(g.Nons, "u"), 5 }), api.ErrNone)
	g := sized(1, api.MaxNons, api.MaxNons)
	for i := range g.Rules {
		x := twin(g)
		x.Rules[i].Left, x.Rules[i].Right = 2+(i+1)%api.MaxNons, []int{1}
		refuse(t, fmt.Sprint("all but ", i), x, api.ErrNone)
	}
}

// P6.1: each error alone, and of several errors the one that the chapter names first.
func TestFirstError(t *testing.T) {
	accept(t, "without faults", wide())
	list := faults()
	for i, a := range list {
		check(t, a)
		for _, b := range list[i+1:] {
			check(t, a, b)
			for _, c := range list {
				if c.rank > b.rank {
					check(t, a, b, c)
				}
			}
		}
		check(t, list[i:]...)
	}
}

// check adds faults, of which the first one is to be found; the last one is added first, so that all fit.
func check(t *testing.T, list ...fault) {
	t.Helper()
	g := wide()
	var what []string
	var want []api.Errno
	for i, f := range slices.Backward(list) {
		f.add(&g)
		what = append(what, f.what)
		if i == 0 || f.rank != list[i-1].rank {
			want = append(want, f.e)
		}
	}
	slices.Reverse(want)
	if all := wrongs(g); !slices.Equal(all, want) {
		t.Errorf("%q: the model finds %d, want %d", what, all, want)
	}
	refuse(t, strings.Join(what, ", "), g, list[0].e)
}

// P6.2: the symbols of grammars that are not valid.
func TestInvalidSymbols(t *testing.T) {
	g := api.Gram{Terms: []string{"$", "", "A", "A", "s"}, Nons: []string{"s", "", "A", "'x'", "$"}}
	agree(t, g)
	for name, want := range map[string]int{"$": 1, "": 2, "A": 3, "s": 5, "'x'": 9, "x": 0, "a": 0, "$ ": 0} {
		if got := gram.Find(g, name); got != want {
			t.Errorf("Find(%q) is %d, want %d", name, got, want)
		}
	}
	if gram.Find(small(), "$") != 0 || gram.Find(small(), "") != 0 || gram.Find(api.Gram{}, "$") != 0 {
		t.Error("Find finds what is not there")
	}
	if gram.Name(api.Gram{}, 0) != "$" || gram.Name(api.Gram{}, 1) != "" || gram.Top(api.Gram{}) != 0 {
		t.Error("the empty grammar has symbols")
	}
}

// P6.2: the rules of grammars that are not valid; the augmented rule is not among those of the left side 0.
func TestInvalidRules(t *testing.T) {
	g := api.Gram{Nons: []string{"s"}, Start: -7, Rules: []api.Rule{rule(0, 9), rule(-1), rule(5, 0, -1), rule(0), rule(-1), rule(math.MaxInt), rule(math.MinInt)}}
	agree(t, g)
	for s, want := range map[int][]int{0: {0, 3}, -1: {1, 4}, 5: {2}, 1: nil, -7: nil, math.MaxInt: {5}, math.MinInt: {6}} {
		if got := gram.Of(g, s); !slices.Equal(got, want) {
			t.Errorf("Of %d is %v, want %v", s, got, want)
		}
	}
	if r, ok := gram.Rule(g, 7); !ok || r.Left != 0 || !slices.Equal(r.Right, []int{-7}) {
		t.Errorf("the augmented rule is %v, %t", r, ok)
	}
	if len(gram.Of(small(), 0)) != 0 {
		t.Error("a valid grammar has rules of the end of input")
	}
	if r, ok := gram.Rule(api.Gram{}, 0); !ok || r.Left != 0 || !slices.Equal(r.Right, []int{0}) {
		t.Errorf("the augmented rule of the empty grammar is %v, %t", r, ok)
	}
	for _, i := range []int{-1, 1} {
		if _, ok := gram.Rule(api.Gram{}, i); ok {
			t.Errorf("the empty grammar has the rule %d", i)
		}
	}
}

// P6.2: the order of first occurrence as a left side; right sides and Start do not count.
func TestOrdered(t *testing.T) {
	for _, x := range []struct {
		lefts []int
		want  bool
	}{
		{nil, true}, {[]int{2}, true}, {[]int{3}, false}, {[]int{4}, false},
		{[]int{2, 3}, true}, {[]int{3, 2}, false}, {[]int{2, 4}, false}, {[]int{2, 2, 3, 3, 4, 4}, true},
		{[]int{2, 3, 4}, true}, {[]int{2, 4, 3}, false}, {[]int{3, 2, 4}, false}, {[]int{4, 3, 2}, false},
		{[]int{2, 3, 2, 4, 3, 2}, true}, {[]int{2, 3, 2}, true}, {[]int{2, 3, 3, 2, 3}, true}, {[]int{2, 2, 4, 3}, false},
		{[]int{0, 2, 1, 3, 5, 4, -1}, true}, {[]int{5, 1, 0, -1}, true}, {[]int{5, 3, 2}, false}, {[]int{2, math.MaxInt, 3, math.MinInt}, true},
	} {
		g := api.Gram{Terms: []string{"A"}, Nons: []string{"s", "t", "u"}, Start: 4}
		for i, left := range x.lefts {
			g.Rules = append(g.Rules, rule(left, 4, 3, 2, i))
		}
		if got := gram.Ordered(g); got != x.want {
			t.Errorf("Ordered of %v is %t", x.lefts, got)
		}
		agree(t, g)
	}
	if !gram.Ordered(api.Gram{}) || !gram.Ordered(api.Gram{Terms: []string{"A"}, Rules: []api.Rule{rule(1), rule(0), rule(2)}}) {
		t.Error("a grammar without nonterminals is not ordered")
	}
}

// P6.2: grammars are the same if nothing at all differs.
func TestSame(t *testing.T) {
	list := []api.Gram{small(), {}, sized(3, 3, 9), {Start: 1}, {Start: -1}, {Terms: []string{""}}, {Nons: []string{""}}, {Rules: []api.Rule{{}}}, {Rules: []api.Rule{{}, {}}}}
	for _, change := range []func(g *api.Gram){
		func(g *api.Gram) { g.Start = 4 },
		func(g *api.Gram) { g.Start = -3 },
		func(g *api.Gram) { g.Terms[0] = "a" },
		func(g *api.Gram) { g.Terms[1] = "';;'" },
		func(g *api.Gram) { slices.Reverse(g.Terms) },
		func(g *api.Gram) { g.Terms = g.Terms[:1] },
		func(g *api.Gram) { g.Terms, g.Nons = g.Terms[:1], append(g.Terms[1:], g.Nons...) },
		func(g *api.Gram) { g.Terms = append(g.Terms, "") },
		func(g *api.Gram) { g.Terms = nil },
		func(g *api.Gram) { g.Nons[0] = "u" },
		func(g *api.Gram) { g.Nons[1] = "u" },
		func(g *api.Gram) { slices.Reverse(g.Nons) },
		func(g *api.Gram) { g.Nons = g.Nons[:1] },
		func(g *api.Gram) { g.Nons = append(g.Nons, "") },
		func(g *api.Gram) { g.Nons = nil },
		func(g *api.Gram) { slices.Reverse(g.Rules) },
		func(g *api.Gram) { g.Rules = g.Rules[:2] },
		func(g *api.Gram) { g.Rules = g.Rules[1:] },
		func(g *api.Gram) { g.Rules = append(g.Rules, api.Rule{}) },
		func(g *api.Gram) { g.Rules = nil },
		func(g *api.Gram) { g.Rules[0].Left = 4 },
		func(g *api.Gram) { g.Rules[2].Left = 3 },
		func(g *api.Gram) { g.Rules[0].Right = nil },
		func(g *api.Gram) { g.Rules[0].Right = []int{1} },
		func(g *api.Gram) { g.Rules[0].Right = []int{1, 4, 4} },
		func(g *api.Gram) { g.Rules[0].Right = []int{4, 1} },
		func(g *api.Gram) { g.Rules[1].Right = []int{0} },
		func(g *api.Gram) { g.Rules[2].Right = []int{4, 1} },
	} {
		list = append(list, with(change))
	}
	for i, a := range list {
		for k, b := range list {
			if gram.Same(a, twin(b)) != (i == k) {
				t.Errorf("Same of %d and %d: %s, %s", i, k, show(a), show(b))
			}
		}
	}
}

// P3: nil and empty lists are equivalent.
func TestNilAndEmpty(t *testing.T) {
	for _, g := range []api.Gram{{}, small(), {Nons: []string{"s"}, Rules: []api.Rule{rule(1), {Left: 1}}, Start: 1}, {Terms: []string{"A"}, Rules: []api.Rule{{}}}} {
		x := twin(g)
		if len(x.Terms) == 0 {
			x.Terms = []string{}
		}
		if len(x.Nons) == 0 {
			x.Nons = []string{}
		}
		if len(x.Rules) == 0 {
			x.Rules = []api.Rule{}
		}
		for i := range x.Rules {
			if len(x.Rules[i].Right) == 0 {
				x.Rules[i].Right = []int{}
			}
		}
		if !gram.Same(g, x) || !gram.Same(x, g) || gram.Check(g) != gram.Check(x) || gram.Ordered(g) != gram.Ordered(x) {
			t.Errorf("nil and empty lists differ: %s", show(g))
		}
		agree(t, g)
		agree(t, x)
	}
}

// P4: what a caller writes to an answer changes no grammar.
func TestAnswersAreNew(t *testing.T) {
	g := small()
	for i := range 4 {
		r, _ := gram.Rule(g, i)
		for k := range r.Right {
			r.Right[k] = -1
		}
		_ = append(r.Right, -1)
	}
	of := gram.Of(g, 4)
	of[0] = -1
	if !gram.Same(g, small()) {
		t.Errorf("the grammar is now %s", show(g))
	}
	agree(t, g)
}

// P6.1, P6.2: all grammars that can be put together from a few lists and rules.
func TestSmallGrammars(t *testing.T) {
	pool := []api.Rule{rule(1), rule(2), rule(2, 1), rule(3), rule(3, 3, 2), rule(0), rule(4, 1), rule(2, 0), rule(3, 4)}
	for _, terms := range [][]string{nil, {"A"}, {"A", "'x'"}, {"A", "A"}, {"x y"}} {
		for _, nons := range [][]string{nil, {"s"}, {"s", "t"}, {"s", "A"}, {"'x'", "s"}, {"s", "t", "s"}} {
			for start := -1; start <= 4; start++ {
				g := api.Gram{Terms: terms, Nons: nons, Start: start}
				agree(t, g)
				for _, a := range pool {
					g.Rules = []api.Rule{a}
					agree(t, g)
					for _, b := range pool {
						g.Rules = []api.Rule{a, b}
						agree(t, g)
					}
				}
			}
		}
	}
}

// P6.1, P6.2: all orders of up to four rules of a grammar that is otherwise valid.
func TestRuleOrders(t *testing.T) {
	pool := []api.Rule{rule(2), rule(2, 1, 3), rule(3, 4), rule(3), rule(4, 1), rule(4, 4, 4)}
	g := api.Gram{Terms: []string{"A"}, Nons: []string{"s", "t", "u"}, Start: 2}
	var more func(n int)
	more = func(n int) {
		agree(t, g)
		if n == 0 {
			return
		}
		for _, r := range pool {
			g.Rules = append(g.Rules, r)
			more(n - 1)
			g.Rules = g.Rules[:len(g.Rules)-1]
		}
	}
	more(4)
}

func TestExample(t *testing.T) {
	g := api.Gram{Terms: []string{"a", "b"}, Nons: []string{"s"}, Rules: []api.Rule{rule(3, 1), rule(3, 3, 2)}, Start: 3}
	if gram.Find(g, "s") != 3 || gram.Name(g, 3) != "s" || !gram.Non(g, 3) {
		t.Error("the symbol s is not 3")
	}
	if r, ok := gram.Rule(g, 2); !ok || r.Left != 0 || !slices.Equal(r.Right, []int{3}) {
		t.Errorf("Rule(g, n) is %v, %t", r, ok)
	}
	accept(t, "example", g)
}
