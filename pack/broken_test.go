package pack_test

import (
	"math"
	"slices"
	"testing"

	"conch/api"
	"conch/pack"
	"conch/sample"
)

// broken returns the packed table of the samples after a change.
func broken(change func(p *api.Packed)) api.Packed {
	p := sample.Packed()
	change(&p)
	return p
}

// wrong demands of a packed table that it is the packed form of no table.
func wrong(t *testing.T, p api.Packed) {
	t.Helper()
	asked(t, p)
	if x := pack.Unpack(p); pack.Right(p) || text(x) != text(api.Table{}) {
		t.Errorf("%s: Right is %t, unpacked it is %s", short(p), pack.Right(p), short(x))
	}
}

// right demands of a packed table that it is the packed form of a table.
func right(t *testing.T, p api.Packed) {
	t.Helper()
	asked(t, p)
	back, ok := pack.Pack(pack.Unpack(p))
	if !pack.Right(p) || !ok || text(back) != text(p) {
		t.Errorf("%s: Right is %t, packed again it is %s %t", short(p), pack.Right(p), short(back), ok)
	}
}

// alike demands of a packed table that is the packed form of no table the actions and goto entries of another one all the same.
func alike(t *testing.T, p, other api.Packed) {
	t.Helper()
	wrong(t, p)
	for _, i := range numbers {
		for _, s := range numbers {
			if pack.Act(p, i, s) != pack.Act(other, i, s) || pack.Goto(p, i, s) != pack.Goto(other, i, s) {
				t.Errorf("%s: in state %d with symbol %d %v and %d", short(p), i, s, pack.Act(p, i, s), pack.Goto(p, i, s))
			}
		}
	}
}

// P17.1: what is right, and its table.
func TestWhole(t *testing.T) {
	right(t, sample.Packed())
	literal(t, api.Table{
		Rules: []api.Rule{{Left: 3}, {Left: 3, Right: []int{1, 2}}, {Right: []int{3}}},
		Terms: 2, Nons: 1,
		Acts: [][]api.Act{{none(), shift(1), shift(3)}, {accept(), shift(1), shift(3)}, {none(), shift(1), shift(3)}, {reduce(1), reduce(0), none()}},
		Goto: [][]int{{-1}, {-1}, {3}, {-1}},
	}, sample.Packed())
	// One more state, with a row of its own or with the first one, and one rule more or less.
	right(t, broken(func(p *api.Packed) { p.Row, p.Gow = append(p.Row, 0), append(p.Gow, 1) }))
	right(t, broken(func(p *api.Packed) {
		p.Row, p.Gow, p.Rows = append(p.Row, 3), append(p.Gow, 0), append(p.Rows, []uint16{0, 0, 0})
	}))
	right(t, broken(func(p *api.Packed) { p.Rules = append(p.Rules, api.Rule{Left: 7}); p.Rules[2].Left = 3 }))
	wrong(t, broken(func(p *api.Packed) { p.Rules = p.Rules[:2] }))
	right(t, broken(func(p *api.Packed) { p.Rules = p.Rules[:2]; p.Rows[2][0] = 0 }))
	// Right sides and the last left side are of no account.
	right(t, broken(func(p *api.Packed) { p.Rules[0].Right, p.Rules[2] = []int{-5, 0, math.MaxInt}, api.Rule{Left: -1} }))
}

// P17.1, P6: indices of no row.
func TestNoRow(t *testing.T) {
	for _, at := range []int{math.MinInt, -2, -1, 3, 4, math.MaxInt} {
		p := broken(func(p *api.Packed) { p.Row[3] = at })
		wrong(t, p)
		if a, b := pack.Act(p, 3, 0), pack.Act(p, 1, 0); a != none() || b != accept() {
			t.Errorf("row %d has the action %v, and row 1 %v", at, a, b)
		}
		p = broken(func(p *api.Packed) { p.Gow[2] = at })
		wrong(t, p)
		if a, b := pack.Goto(p, 2, 3), pack.Act(p, 2, 1); a != -1 || b != shift(1) {
			t.Errorf("row %d leads to %d, with the action %v", at, a, b)
		}
	}
}

// P17.1, P17.2: rows that no state has, and equal rows, whether states have both of them or not.
func TestRowTooMany(t *testing.T) {
	alike(t, broken(func(p *api.Packed) { p.Rows = append(p.Rows, []uint16{0, 0, 0}) }), sample.Packed())
	alike(t, broken(func(p *api.Packed) { p.Rows = append(p.Rows, p.Rows[0]) }), sample.Packed())
	alike(t, broken(func(p *api.Packed) { p.Gows = append(p.Gows, []uint16{1}) }), sample.Packed())
	alike(t, broken(func(p *api.Packed) { p.Gows = append(p.Gows, p.Gows[1]) }), sample.Packed())
	alike(t, broken(func(p *api.Packed) { p.Row, p.Rows = []int{0, 1, 2, 3}, slices.Insert(p.Rows, 2, p.Rows[0]) }), sample.Packed())
	alike(t, broken(func(p *api.Packed) { p.Row, p.Rows = []int{0, 2, 0, 3}, slices.Insert(p.Rows, 1, p.Rows[0]) }), sample.Packed())
	alike(t, broken(func(p *api.Packed) { p.Gow, p.Gows = []int{0, 0, 1, 2}, append(p.Gows, p.Gows[0]) }), sample.Packed())
	alike(t, broken(func(p *api.Packed) { p.Gow, p.Gows = []int{0, 1, 2, 0}, [][]uint16{{0}, {0}, {4}} }), sample.Packed())
	// A state loses the only row that it alone has.
	wrong(t, broken(func(p *api.Packed) { p.Row[3] = 0 }))
	wrong(t, broken(func(p *api.Packed) { p.Row[1] = 0 }))
	wrong(t, broken(func(p *api.Packed) { p.Gow[2] = 0 }))
	// Rows of different kinds may be equal.
	right(t, broken(func(p *api.Packed) {
		p.Nons, p.Gows = 3, [][]uint16{{0, 0, 0}, {1, 2, 3}}
		p.Rows[0] = []uint16{0, 0, 0}
	}))
}

// P17.1: rows in another order than that of their first occurrence.
func TestOtherOrder(t *testing.T) {
	alike(t, broken(func(p *api.Packed) { p.Row, p.Rows = []int{1, 0, 1, 2}, [][]uint16{p.Rows[1], p.Rows[0], p.Rows[2]} }), sample.Packed())
	alike(t, broken(func(p *api.Packed) { p.Row, p.Rows = []int{0, 2, 0, 1}, [][]uint16{p.Rows[0], p.Rows[2], p.Rows[1]} }), sample.Packed())
	alike(t, broken(func(p *api.Packed) { p.Gow, p.Gows = []int{1, 1, 0, 1}, [][]uint16{p.Gows[1], p.Gows[0]} }), sample.Packed())
	wrong(t, broken(func(p *api.Packed) { p.Row = []int{2, 1, 0, 0} }))
	wrong(t, broken(func(p *api.Packed) { p.Row = []int{0, 2, 1, 0} }))
	wrong(t, broken(func(p *api.Packed) { p.Gow = []int{1, 0, 0, 0} }))
	// The same indices otherwise, or the same rows.
	right(t, broken(func(p *api.Packed) { p.Row = []int{0, 1, 2, 2} }))
	right(t, broken(func(p *api.Packed) { slices.Reverse(p.Rows) }))
	right(t, broken(func(p *api.Packed) { slices.Reverse(p.Gows) }))
}

// P17.1: rows that are too short or too long, and numbers of symbols that do not fit.
func TestOtherLength(t *testing.T) {
	for i := range 3 {
		alike(t, broken(func(p *api.Packed) { p.Rows[i] = append(p.Rows[i], 16384) }), sample.Packed())
		p := broken(func(p *api.Packed) { p.Rows[i] = p.Rows[i][:2] })
		wrong(t, p)
		if a := pack.Act(p, []int{0, 1, 3}[i], 2); a != none() {
			t.Errorf("the action behind row %d is %v", i, a)
		}
		wrong(t, broken(func(p *api.Packed) { p.Rows[i] = nil }))
	}
	for i := range 2 {
		alike(t, broken(func(p *api.Packed) { p.Gows[i] = append(p.Gows[i], 1) }), sample.Packed())
		p := broken(func(p *api.Packed) { p.Gows[i] = []uint16{} })
		wrong(t, p)
		if to := pack.Goto(p, []int{0, 2}[i], 3); to != -1 {
			t.Errorf("behind row %d there is %d", i, to)
		}
	}
	for _, n := range []int{math.MinInt, -2, -1, 0, 1, 3, 4, math.MaxInt - 1, math.MaxInt} {
		wrong(t, broken(func(p *api.Packed) { p.Terms = n }))
		wrong(t, broken(func(p *api.Packed) { p.Terms, p.Nons = n, n }))
		if n != 1 {
			wrong(t, broken(func(p *api.Packed) { p.Nons = n }))
		}
	}
	// Rows that fit to a number below 0, if that could be.
	wrong(t, api.Packed{Rules: []api.Rule{{}}, Terms: -1, Row: []int{0}, Rows: [][]uint16{nil}, Gow: []int{0}, Gows: [][]uint16{nil}})
	wrong(t, api.Packed{Rules: []api.Rule{{}}, Nons: -1, Row: []int{0}, Rows: [][]uint16{{0}}, Gow: []int{0}, Gows: [][]uint16{nil}})
	right(t, api.Packed{Rules: []api.Rule{{}}, Row: []int{0}, Rows: [][]uint16{{0}}, Gow: []int{0}, Gows: [][]uint16{nil}})
}

// P17.1: each code at each place: that of no action is none, and so is the goto entry of no state; a shift and a reduction are what their
// code says, as in chapter 15, even if their number does not exist.
func TestEachCode(t *testing.T) {
	for code := range 1 << 16 {
		p := broken(func(p *api.Packed) { p.Rows[2][2], p.Gows[1][0] = uint16(code), 4 })
		a, valid := none(), false
		switch {
		case code == 0:
			valid = true
		case code >= 16384 && code <= 32767:
			a, valid = shift(code-16384), code <= 16384+3
		case code >= 32768 && code <= 49151:
			a, valid = reduce(code-32768), code <= 32768+1
		case code == 49152:
			a, valid = accept(), true
		}
		if got := pack.Act(p, 3, 2); got != a || pack.Right(p) != valid || (len(pack.Unpack(p).Acts) != 0) != valid {
			t.Fatalf("the code %d is of %v, want %v, and right: %t", code, got, a, pack.Right(p))
		}
		p = broken(func(p *api.Packed) { p.Gows[1][0] = uint16(code) })
		to := code - 1
		if code > 4 {
			to = -1
		}
		// The code 0 makes two equal rows.
		if got, valid := pack.Goto(p, 2, 3), code >= 1 && code <= 4; got != to || pack.Right(p) != valid || (len(pack.Unpack(p).Goto) != 0) != valid {
			t.Fatalf("the code %d is of %d, want %d, and right: %t", code, got, to, pack.Right(p))
		}
	}
}

// P17.1: lists that are empty, and numbers of states that differ.
func TestMissing(t *testing.T) {
	wrong(t, api.Packed{})
	wrong(t, api.Packed{Rules: []api.Rule{}, Row: []int{}, Rows: [][]uint16{}, Gow: []int{}, Gows: [][]uint16{}})
	wrong(t, api.Packed{Terms: 2, Nons: 2})
	wrong(t, broken(func(p *api.Packed) { p.Rules = nil }))
	wrong(t, broken(func(p *api.Packed) { p.Row = nil }))
	wrong(t, broken(func(p *api.Packed) { p.Gow = nil }))
	wrong(t, broken(func(p *api.Packed) { p.Row, p.Gow = nil, nil }))
	wrong(t, broken(func(p *api.Packed) { p.Row, p.Gow, p.Rows, p.Gows = nil, nil, nil, nil }))
	wrong(t, broken(func(p *api.Packed) { p.Rows = nil }))
	wrong(t, broken(func(p *api.Packed) { p.Gows = nil }))
	wrong(t, broken(func(p *api.Packed) { p.Rows, p.Gows = nil, nil }))
	// Actions of a state without goto entries, and the other way around.
	p := broken(func(p *api.Packed) { p.Row = append(p.Row, 1) })
	wrong(t, p)
	if a, to := pack.Act(p, 4, 0), pack.Goto(p, 4, 3); a != accept() || to != -1 {
		t.Errorf("a state without goto entries has %v and %d", a, to)
	}
	p = broken(func(p *api.Packed) { p.Gow = append(p.Gow, 1) })
	wrong(t, p)
	if a, to := pack.Act(p, 4, 0), pack.Goto(p, 4, 3); a != none() || to != 3 {
		t.Errorf("a state without actions has %v and %d", a, to)
	}
	wrong(t, broken(func(p *api.Packed) { p.Row = p.Row[:3]; p.Rows = p.Rows[:2] }))
	wrong(t, broken(func(p *api.Packed) { p.Gow = p.Gow[:3] }))
	// No rule can be reduced if there is only the last one.
	one := api.Packed{Rules: []api.Rule{{}}, Row: []int{0}, Rows: [][]uint16{{32768}}, Gow: []int{0}, Gows: [][]uint16{nil}}
	wrong(t, one)
	one.Rows[0][0] = 16384
	right(t, one)
	one.Rows[0][0] = 16385
	wrong(t, one)
}

// P17.1: left sides of rules.
func TestLeftSides(t *testing.T) {
	for _, left := range []int{math.MinInt, -1, 0, 1, 2, 3, 4, 5, math.MaxInt - 1, math.MaxInt} {
		for i := range 2 {
			p := broken(func(p *api.Packed) { p.Rules[i].Left = left })
			if asked(t, p) != (left == 3) {
				t.Errorf("rule %d with the left side %d: Right is %t", i, left, pack.Right(p))
			}
		}
		right(t, broken(func(p *api.Packed) { p.Rules[2].Left = left }))
	}
}

// P17.1: just so many states and rules as a packed table can have, and more.
func TestLimitOfRight(t *testing.T) {
	for _, n := range []int{1, 2, 16382, 16383, 16384, 16385, 65536} {
		p := api.Packed{Rules: []api.Rule{{}}, Row: make([]int, n), Rows: [][]uint16{{0}}, Gow: make([]int, n), Gows: [][]uint16{nil}}
		q := api.Packed{Rules: make([]api.Rule, n), Nons: 1, Row: []int{0}, Rows: [][]uint16{{0}}, Gow: []int{0}, Gows: [][]uint16{{1}}}
		for i := range q.Rules {
			q.Rules[i].Left = 1
		}
		for _, x := range []api.Packed{p, q} {
			if got := pack.Right(x); got != (n <= 16383) || (len(pack.Unpack(x).Acts) != 0) != got {
				t.Errorf("%d states and %d rules: Right is %t", len(x.Row), len(x.Rules), got)
			}
		}
	}
}

// P1, P17.1: a packed table whose table would have 2^34 actions: each row is looked at once, and not for each state.
func TestHuge(t *testing.T) {
	p := api.Packed{Rules: []api.Rule{{}}, Terms: 1<<20 - 1, Row: make([]int, 16383), Rows: [][]uint16{make([]uint16, 1<<20)}, Gow: make([]int, 16383), Gows: [][]uint16{nil}}
	p.Rows[0][1<<20-1] = 16384 + 16382
	if !pack.Right(p) || pack.Act(p, 16382, 1<<20-1) != shift(16382) || pack.Act(p, 16382, 1<<20) != none() || pack.Act(p, 16383, 1<<20-1) != none() {
		t.Errorf("Right is %t", pack.Right(p))
	}
	p.Rows[0][1<<20-1]++
	if pack.Right(p) || len(pack.Unpack(p).Acts) != 0 {
		t.Error("a shift to a state that is not there")
	}
}

// P1, P17.1: packed tables after some changes, which are right or not.
func TestChanges(t *testing.T) {
	counts := map[bool]int{}
	for p := range sample.Changed(20000) {
		counts[asked(t, p)]++
	}
	if counts[true] < 1000 || counts[false] < 10000 {
		t.Errorf("%v", counts)
	}
}
