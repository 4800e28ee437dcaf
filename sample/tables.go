package sample

import (
	"iter"

	"conch/api"
)

// Shift, Reduce, Accept and None are the actions of tables.
func Shift(to int) api.Act    { return api.Act{K: api.ActShift, N: to} }
func Reduce(rule int) api.Act { return api.Act{K: api.ActReduce, N: rule} }
func Accept() api.Act         { return api.Act{K: api.ActAccept} }
func None() api.Act           { return api.Act{} }

// Table returns a valid table that no grammar has: three states, two terminals, two
// nonterminals, and each kind of action.
func Table() api.Table {
	return api.Table{
		Rules: []api.Rule{{Left: 3, Right: []int{1}}, {Left: 4}, {Left: 3, Right: []int{4, 2}}, {Right: []int{3}}},
		Terms: 2, Nons: 2,
		Acts: [][]api.Act{
			{Shift(1), Reduce(0), None()},
			{Accept(), Reduce(1), Shift(2)},
			{None(), Shift(0), Reduce(2)},
		},
		Goto: [][]int{{1, -1}, {2, 0}, {-1, -1}},
	}
}

// Loose yields that many tables that are valid, nearly so, or not at all, the same
// ones each time.
func Loose(count int) iter.Seq[api.Table] {
	return func(yield func(api.Table) bool) {
		var s strewer
		for range count {
			if !yield(s.table()) {
				return
			}
		}
	}
}

// table returns the next table.
func (s *strewer) table() api.Table {
	x := api.Table{Terms: s.next(3), Nons: s.next(3)}
	n := 1 + s.next(3)
	x.Rules = make([]api.Rule, 1+s.next(3))
	for i := range x.Rules {
		x.Rules[i].Left = x.Terms + 1 + s.next(x.Nons+1) + s.off()
	}
	for range max(n+s.off(), 0) {
		row := make([]api.Act, max(x.Terms+1+s.off(), 0))
		for k := range row {
			row[k] = []api.Act{None(), Accept(), Shift(s.next(n)), Reduce(s.next(len(x.Rules)))}[s.next(4)]
			row[k].N, row[k].K = row[k].N+s.off(), row[k].K+s.off()
		}
		x.Acts = append(x.Acts, row)
	}
	for range max(n+s.off(), 0) {
		row := make([]int, max(x.Nons+s.off(), 0))
		for k := range row {
			row[k] = s.next(n+1) - 1 + s.off()
		}
		x.Goto = append(x.Goto, row)
	}
	x.Terms, x.Nons = x.Terms+s.off(), x.Nons+s.off()
	return x
}

// off returns 0 almost always, and otherwise what makes a number wrong by one.
func (s *strewer) off() int {
	return s.next(12) / 11 * (s.next(3) - 1)
}
