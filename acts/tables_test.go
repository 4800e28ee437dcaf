package acts_test

import (
	"math"
	"slices"
	"testing"

	"conch/acts"
	"conch/api"
	"conch/sample"
)

// with returns the table after a change.
func with(change func(x *api.Table)) api.Table {
	x := sample.Table()
	change(&x)
	return x
}

// acted returns the table with another action at some place.
func acted(i, term int, a api.Act) api.Table {
	return with(func(x *api.Table) { x.Acts[i][term] = a })
}

// led returns the table with another number where nonterminals lead.
func led(i, column, to int) api.Table {
	return with(func(x *api.Table) { x.Goto[i][column] = to })
}

// lefted returns the table with another left side of a rule.
func lefted(i, left int) api.Table {
	return with(func(x *api.Table) { x.Rules[i].Left = left })
}

// counted returns the table with other numbers of terminals and nonterminals.
func counted(terms, nons int) api.Table {
	return with(func(x *api.Table) { x.Terms, x.Nons = terms, nons })
}

// verdict demands of a table that it is valid, or that it isn't.
func verdict(t *testing.T, x api.Table, want bool) {
	t.Helper()
	if got := acts.Right(x); got != want || right(x) != want {
		t.Errorf("%s: %t, the model says %t, want %t", text(x), got, right(x), want)
	}
}

// right is a model of Right: it takes down what can stand in a table, and looks up each thing.
func right(x api.Table) bool {
	states := map[int]bool{}
	for i := range x.Acts {
		states[i] = true
	}
	targets := map[int]bool{-1: true}
	can := map[api.Act]bool{{K: api.ActNone}: true, {K: api.ActAccept}: true}
	for i := range states {
		targets[i] = true
		can[api.Act{K: api.ActShift, N: i}] = true
	}
	wrong := 0
	for i, r := range x.Rules {
		if i == len(x.Rules)-1 {
			continue
		}
		can[api.Act{K: api.ActReduce, N: i}] = true
		if nonterminal := slices.ContainsFunc(columns(x), func(s uint64) bool { return r.Left > 0 && uint64(r.Left) == s }); !nonterminal {
			wrong++
		}
	}
	for _, row := range x.Acts {
		if x.Terms != len(row)-1 {
			wrong++
		}
		for _, a := range row {
			if !can[a] {
				wrong++
			}
		}
	}
	for _, row := range x.Goto {
		if x.Nons != len(row) {
			wrong++
		}
		for _, to := range row {
			if !targets[to] {
				wrong++
			}
		}
	}
	return wrong == 0 && len(x.Rules) > 0 && len(states) > 0 && len(x.Goto) == len(states) && x.Terms > -1 && x.Nons > -1
}

// columns returns the nonterminals, as far as rows have columns for them. They are counted as uint64, where one more than the greatest
// int is a number as well.
func columns(x api.Table) []uint64 {
	var list []uint64
	for k := 0; k < x.Nons && k < 8; k++ {
		list = append(list, uint64(max(x.Terms, 0))+1+uint64(k))
	}
	return list
}

// P15.2: a valid table, and what makes a difference by one.
func TestRight(t *testing.T) {
	verdict(t, sample.Table(), true)
	verdict(t, api.Table{}, false)
	// No rule, no state, and just one of each.
	verdict(t, with(func(x *api.Table) { x.Rules = nil }), false)
	verdict(t, with(func(x *api.Table) { x.Acts, x.Goto = nil, nil }), false)
	verdict(t, with(func(x *api.Table) { x.Acts, x.Goto = [][]api.Act{}, [][]int{} }), false)
	verdict(t, api.Table{Rules: []api.Rule{{}}, Acts: [][]api.Act{{{}}}, Goto: [][]int{nil}}, true)
	verdict(t, api.Table{Rules: []api.Rule{{}}, Acts: [][]api.Act{{{}}}, Goto: [][]int{{}}}, true)
	verdict(t, api.Table{Acts: [][]api.Act{{{}}}, Goto: [][]int{nil}}, false)
	verdict(t, api.Table{Rules: []api.Rule{{}}, Acts: [][]api.Act{{{}}}}, false)
	verdict(t, api.Table{Rules: []api.Rule{{}}, Goto: [][]int{nil}}, false)
	verdict(t, api.Table{Rules: []api.Rule{{}}}, false)
	verdict(t, api.Table{Rules: []api.Rule{{Left: 1}, {}}, Acts: [][]api.Act{{{}}}, Goto: [][]int{nil}}, false)
	verdict(t, api.Table{Rules: []api.Rule{{Left: 1}, {}}, Nons: 1, Acts: [][]api.Act{{{}}}, Goto: [][]int{{0}}}, true)
	// Terminals without nonterminals and the other way around.
	verdict(t, api.Table{Rules: []api.Rule{{}}, Terms: 1, Acts: [][]api.Act{{{}, {}}}, Goto: [][]int{{}}}, true)
	verdict(t, api.Table{Rules: []api.Rule{{}}, Nons: 1, Acts: [][]api.Act{{{}}}, Goto: [][]int{{-1}}}, true)
}

// P15.2: rows that are too many or too few, too short or too long, and numbers of symbols that don't fit.
func TestRightRows(t *testing.T) {
	for i := range 3 {
		verdict(t, with(func(x *api.Table) { x.Acts[i] = x.Acts[i][:2] }), false)
		verdict(t, with(func(x *api.Table) { x.Acts[i] = nil }), false)
		verdict(t, with(func(x *api.Table) { x.Acts[i] = append(x.Acts[i], api.Act{}) }), false)
		verdict(t, with(func(x *api.Table) { x.Goto[i] = x.Goto[i][:1] }), false)
		verdict(t, with(func(x *api.Table) { x.Goto[i] = nil }), false)
		verdict(t, with(func(x *api.Table) { x.Goto[i] = append(x.Goto[i], -1) }), false)
	}
	verdict(t, with(func(x *api.Table) { x.Goto = x.Goto[:2] }), false)
	verdict(t, with(func(x *api.Table) { x.Goto = append(x.Goto, []int{-1, -1}) }), false)
	verdict(t, with(func(x *api.Table) { x.Acts = append(x.Acts, make([]api.Act, 3)) }), false)
	verdict(t, with(func(x *api.Table) { x.Acts, x.Goto = append(x.Acts, make([]api.Act, 3)), append(x.Goto, []int{3, -1}) }), true)
	// With a state less, actions and numbers lead to one that isn't there.
	verdict(t, with(func(x *api.Table) { x.Acts, x.Goto = x.Acts[:2], x.Goto[:2] }), false)
	for _, n := range []int{math.MinInt, -2, -1, 0, 1, 3, 4, math.MaxInt - 1, math.MaxInt} {
		verdict(t, counted(n, 2), false)
		verdict(t, counted(2, n), false)
		verdict(t, counted(n, n), false)
	}
	// Rows that fit to a number below 0, if that could be.
	verdict(t, api.Table{Rules: []api.Rule{{}}, Terms: -1, Acts: [][]api.Act{nil}, Goto: [][]int{nil}}, false)
	verdict(t, api.Table{Rules: []api.Rule{{}}, Terms: -1, Acts: [][]api.Act{{{}}}, Goto: [][]int{nil}}, false)
	verdict(t, api.Table{Rules: []api.Rule{{}}, Nons: -1, Acts: [][]api.Act{{{}}}, Goto: [][]int{nil}}, false)
	verdict(t, api.Table{Rules: []api.Rule{{}}, Acts: [][]api.Act{nil}, Goto: [][]int{nil}}, false)
}

// P15.2: each of the four kinds of actions, and others, with each number around what is allowed, in each place.
func TestRightActions(t *testing.T) {
	type limits struct{ kind, last int }
	for _, x := range []limits{{api.ActNone, 0}, {api.ActShift, 2}, {api.ActReduce, 2}, {api.ActAccept, 0}, {-1, -1}, {4, -1}, {math.MinInt, -1}, {math.MaxInt, -1}} {
		for _, n := range []int{math.MinInt, -2, -1, 0, 1, 2, 3, 4, math.MaxInt} {
			for i := range 3 {
				for term := range 3 {
					verdict(t, acted(i, term, api.Act{K: x.kind, N: n}), n >= 0 && n <= x.last)
				}
			}
		}
	}
	// The last rule is not reduced, though there is one with its number, nor is any if it is the only one.
	one := api.Table{Rules: []api.Rule{{}}, Acts: [][]api.Act{{reduce(0)}}, Goto: [][]int{nil}}
	verdict(t, one, false)
	one.Acts[0][0] = shift(0)
	verdict(t, one, true)
	one.Acts[0][0] = shift(1)
	verdict(t, one, false)
}

// P15.2: where nonterminals lead.
func TestRightTargets(t *testing.T) {
	for i := range 3 {
		for column := range 2 {
			for _, to := range []int{math.MinInt, -3, -2, -1, 0, 1, 2, 3, 4, math.MaxInt} {
				verdict(t, led(i, column, to), to >= -1 && to <= 2)
			}
		}
	}
}

// P15.2: left sides of rules: all but that of the last one are nonterminals.
func TestRightRules(t *testing.T) {
	for _, left := range []int{math.MinInt, -1, 0, 1, 2, 3, 4, 5, 6, math.MaxInt - 1, math.MaxInt} {
		for i := range 3 {
			verdict(t, lefted(i, left), left == 3 || left == 4)
		}
		verdict(t, lefted(3, left), true)
	}
	// Right sides are of no account.
	verdict(t, with(func(x *api.Table) { x.Rules[0].Right = []int{-5, 0, 99, math.MaxInt} }), true)
	verdict(t, with(func(x *api.Table) { x.Rules[3].Right = nil }), true)
	verdict(t, with(func(x *api.Table) { x.Rules = append(x.Rules, api.Rule{}) }), false)
	verdict(t, with(func(x *api.Table) { x.Rules = append(x.Rules, x.Rules[0]); x.Rules[3].Left = 4 }), true)
}

// act and leads are models of Act and Goto: they look for the place.
func act(x api.Table, state, term int) api.Act {
	for i, row := range x.Acts {
		for k, a := range row {
			if i == state && k == term && (k == 0 || k <= x.Terms) {
				return a
			}
		}
	}
	return api.Act{}
}

func leads(x api.Table, state, s int) int {
	for i, row := range x.Goto {
		for k, number := range columns(x) {
			if i == state && k < len(row) && s > 0 && uint64(s) == number && row[k] >= 0 && (row[k] < len(x.Acts) || row[k] < len(x.Goto)) {
				return row[k]
			}
		}
	}
	return -1
}

// numbers are those within tables, around them, and the extreme ones.
var numbers = []int{math.MinInt, math.MinInt + 1, -5, -2, -1, 0, 1, 2, 3, 4, 5, 6, 7, math.MaxInt - 1, math.MaxInt}

// asked demands of a table what the models say, for all of these numbers.
func asked(t *testing.T, x api.Table) {
	t.Helper()
	for _, i := range numbers {
		for _, s := range numbers {
			if a := acts.Act(x, i, s); a != act(x, i, s) {
				t.Errorf("%s: Act(%d, %d) is %v, want %v", text(x), i, s, a, act(x, i, s))
			}
			if to := acts.Goto(x, i, s); to != leads(x, i, s) {
				t.Errorf("%s: Goto(%d, %d) is %d, want %d", text(x), i, s, to, leads(x, i, s))
			}
		}
	}
	stop(t)
}

// P15.2: Act, with states and terminals that exist, and those that don't.
func TestAct(t *testing.T) {
	x := sample.Table()
	for i, row := range x.Acts {
		for term, a := range row {
			if got := acts.Act(x, i, term); got != a {
				t.Errorf("Act(%d, %d) is %v, want %v", i, term, got, a)
			}
		}
	}
	for _, c := range [][2]int{{-1, 0}, {3, 0}, {0, -1}, {0, 3}, {2, 3}, {2, 4}, {3, 3}, {-1, -1}, {math.MinInt, 0}, {math.MaxInt, 0}, {0, math.MinInt}, {0, math.MaxInt}} {
		if got := acts.Act(x, c[0], c[1]); got != (api.Act{}) {
			t.Errorf("Act(%d, %d) is %v", c[0], c[1], got)
		}
	}
	// What stands there is returned, even if it can't be.
	for _, a := range []api.Act{{K: 4, N: 1}, {K: -1}, shift(3), shift(-1), reduce(3), {K: api.ActAccept, N: 7}, {N: 5}} {
		if got := acts.Act(acted(1, 2, a), 1, 2); got != a {
			t.Errorf("%v is returned as %v", a, got)
		}
	}
	// A row with actions for more terminals than there are, and one with less.
	long := with(func(x *api.Table) { x.Acts[1] = append(x.Acts[1], shift(1)) })
	short := with(func(x *api.Table) { x.Acts[1] = x.Acts[1][:2] })
	if a, b := acts.Act(long, 1, 3), acts.Act(short, 1, 2); a != (api.Act{}) || b != (api.Act{}) {
		t.Errorf("%v and %v", a, b)
	}
	if a, b := acts.Act(long, 1, 2), acts.Act(short, 1, 1); a != shift(2) || b != reduce(1) {
		t.Errorf("%v and %v", a, b)
	}
}

// P15.2: Goto, with states and symbols that exist, and those that don't.
func TestGoto(t *testing.T) {
	x := sample.Table()
	for i, row := range x.Goto {
		for k, to := range row {
			if got := acts.Goto(x, i, 3+k); got != to {
				t.Errorf("Goto(%d, %d) is %d, want %d", i, 3+k, got, to)
			}
		}
	}
	for _, c := range [][2]int{{-1, 3}, {3, 3}, {0, 0}, {0, 1}, {0, 2}, {1, 2}, {1, 5}, {0, -1}, {math.MinInt, 3}, {math.MaxInt, 3}, {1, math.MinInt}, {1, math.MaxInt}} {
		if got := acts.Goto(x, c[0], c[1]); got != -1 {
			t.Errorf("Goto(%d, %d) is %d", c[0], c[1], got)
		}
	}
	// A number that is no state is none to which a nonterminal leads.
	for to, want := range map[int]int{-2: -1, -1: -1, 0: 0, 1: 1, 2: 2, 3: -1, 4: -1, math.MinInt: -1, math.MaxInt: -1} {
		if got := acts.Goto(led(0, 1, to), 0, 4); got != want {
			t.Errorf("%d is returned as %d, want %d", to, got, want)
		}
	}
	// A row with numbers for more nonterminals than there are, and one with less.
	long := with(func(x *api.Table) { x.Goto[1] = append(x.Goto[1], 1) })
	short := with(func(x *api.Table) { x.Goto[1] = x.Goto[1][:1] })
	if a, b := acts.Goto(long, 1, 5), acts.Goto(short, 1, 4); a != -1 || b != -1 {
		t.Errorf("%d and %d", a, b)
	}
	if a, b := acts.Goto(long, 1, 4), acts.Goto(short, 1, 3); a != 0 || b != 2 {
		t.Errorf("%d and %d", a, b)
	}
}

// P1, P15.2: numbers of terminals and nonterminals that can't be, with which a column must not be miscounted.
func TestExtremes(t *testing.T) {
	for _, terms := range numbers {
		for _, nons := range numbers {
			asked(t, counted(terms, nons))
		}
	}
	if to := acts.Goto(counted(math.MaxInt, math.MaxInt), 0, math.MinInt); to != -1 {
		t.Errorf("the last terminal is followed by a nonterminal that leads to %d", to)
	}
	if a, to := acts.Act(counted(-1, 2), 1, 0), acts.Goto(counted(-1, 2), 1, 1); a != accept() || to != 2 {
		t.Errorf("with less than no terminals %v and %d", a, to)
	}
}

// P1, P15.2: strewn tables, valid ones and others.
func TestLooseTables(t *testing.T) {
	counts := map[bool]int{}
	for x := range sample.Loose(20000) {
		before := text(x)
		asked(t, x)
		verdict(t, x, right(x))
		counts[right(x)]++
		if after := text(x); after != before {
			t.Errorf("%s was modified: %s", before, after)
		}
		stop(t)
	}
	if counts[true] < 1000 || counts[false] < 1000 {
		t.Errorf("%v", counts)
	}
}

// P3, P15.2: nil and empty lists are equivalent, and a table with nothing in it has no action and leads nowhere.
func TestNoRows(t *testing.T) {
	for _, x := range []api.Table{
		{}, {Rules: []api.Rule{}, Acts: [][]api.Act{}, Goto: [][]int{}}, {Terms: 2, Nons: 2},
		{Terms: 2, Nons: 2, Acts: [][]api.Act{nil, {}}, Goto: [][]int{nil, {}}},
	} {
		asked(t, x)
		verdict(t, x, false)
		if a, to := acts.Act(x, 0, 0), acts.Goto(x, 0, 3); a != (api.Act{}) || to != -1 {
			t.Errorf("%s: %v and %d", text(x), a, to)
		}
	}
}
