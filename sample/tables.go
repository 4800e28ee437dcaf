package sample

import (
	"iter"
	"math"

	"conch/api"
)

// Shift, Reduce, Accept and None are the actions of tables.
func Shift(to int) api.Act    { return api.Act{K: api.ActShift, N: to} }
func Reduce(rule int) api.Act { return api.Act{K: api.ActReduce, N: rule} }
func Accept() api.Act         { return api.Act{K: api.ActAccept} }
func None() api.Act           { return api.Act{} }

// Table returns a valid table that no grammar has: three states, two terminals, two
// nonterminals, and each kind of action.
func Table() api.Table {
	return api.Table{
		Rules: []api.Rule{{Left: 3, Right: []int{1}}, {Left: 4}, {Left: 3, Right: []int{4, 2}}, {Right: []int{3}}},
		Terms: 2, Nons: 2,
		Acts: [][]api.Act{
			{Shift(1), Reduce(0), None()},
			{Accept(), Reduce(1), Shift(2)},
			{None(), Shift(0), Reduce(2)},
		},
		Goto: [][]int{{1, -1}, {2, 0}, {-1, -1}},
	}
}

// Loose yields that many tables that are valid, nearly so, or not at all, the same
// ones each time.
func Loose(count int) iter.Seq[api.Table] {
	return func(yield func(api.Table) bool) {
		var s strewer
		for range count {
			if !yield(s.table()) {
				return
			}
		}
	}
}

// table returns the next table.
func (s *strewer) table() api.Table {
	x := api.Table{Terms: s.next(3), Nons: s.next(3)}
	n := 1 + s.next(3)
	x.Rules = make([]api.Rule, 1+s.next(3))
	for i := range x.Rules {
		x.Rules[i].Left = x.Terms + 1 + s.next(x.Nons+1) + s.off()
	}
	for range max(n+s.off(), 0) {
		row := make([]api.Act, max(x.Terms+1+s.off(), 0))
		for k := range row {
			row[k] = []api.Act{None(), Accept(), Shift(s.next(n)), Reduce(s.next(len(x.Rules)))}[s.next(4)]
			row[k].N, row[k].K = row[k].N+s.off(), row[k].K+s.off()
		}
		x.Acts = append(x.Acts, row)
	}
	for range max(n+s.off(), 0) {
		row := make([]int, max(x.Nons+s.off(), 0))
		for k := range row {
			row[k] = s.next(n+1) - 1 + s.off()
		}
		x.Goto = append(x.Goto, row)
	}
	x.Terms, x.Nons = x.Terms+s.off(), x.Nons+s.off()
	return x
}

// off returns 0 almost always, and otherwise what makes a number wrong by one.
func (s *strewer) off() int {
	return s.next(12) / 11 * (s.next(3) - 1)
}

// Packed returns the packed form of a table with four states, of which two have the
// same actions and three the same goto entries.
func Packed() api.Packed {
	return api.Packed{
		Rules: []api.Rule{{Left: 3}, {Left: 3, Right: []int{1, 2}}, {Right: []int{3}}},
		Terms: 2, Nons: 1,
		Row:  []int{0, 1, 0, 2},
		Rows: [][]uint16{{0, 16385, 16387}, {49152, 16385, 16387}, {32769, 32768, 0}},
		Gow:  []int{0, 0, 1, 0},
		Gows: [][]uint16{{0}, {4}},
	}
}

// Changed yields that many packed tables, the same ones each time: each is that of
// Packed after some changes, valid or not.
func Changed(count int) iter.Seq[api.Packed] {
	return func(yield func(api.Packed) bool) {
		var s strewer
		for range count {
			p := Packed()
			for range 1 + s.next(3) {
				s.change(&p)
			}
			if !yield(p) {
				return
			}
		}
	}
}

// change changes one thing in the packed table: to a number near by, an extreme one,
// or any code.
func (s *strewer) change(p *api.Packed) {
	numbers := []int{math.MinInt, math.MinInt + 1, -5, -2, -1, 0, 1, 2, 3, 4, 5, 6, 7, math.MaxInt - 1, math.MaxInt}
	near := numbers[s.next(len(numbers))]
	codes := []uint16{0, 1, 2, 3, 4, 5, 16383, 16384, 16385, 16387, 16388, 32767, 32768, 32769, 32770, 49151, 49152, 49153, 65535, uint16(s.next(1 << 16))}
	code := codes[s.next(len(codes))]
	row, gow := s.next(3), s.next(2)
	switch s.next(12) {
	case 0:
		p.Row[s.next(len(p.Row))] = near
	case 1:
		p.Gow[s.next(len(p.Gow))] = near
	case 2, 3, 4, 5:
		p.Rows[row][s.next(len(p.Rows[row]))] = code
	case 6, 7:
		p.Gows[gow][s.next(len(p.Gows[gow]))] = code
	case 8:
		p.Rules[s.next(len(p.Rules))].Left = near
	case 9:
		p.Terms = near
	case 10:
		p.Nons = near
	case 11:
		p.Row, p.Gow = append(p.Row, s.next(3)), append(p.Gow, s.next(2))
	}
}
