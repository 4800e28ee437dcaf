package pack_test

import (
	"math"
	"slices"
	"testing"

	"conch/acts"
	"conch/api"
	"conch/pack"
	"conch/sample"
)

// Short names for the actions of tables.
var shift, reduce, accept, none = sample.Shift, sample.Reduce, sample.Accept, sample.None

// literal demands the packed form of a table.
func literal(t *testing.T, x api.Table, want api.Packed) {
	t.Helper()
	p, ok := agree(t, x)
	if !ok || text(p) != text(want) {
		t.Errorf("%s: packed it is %s %t, want %s", short(x), text(p), ok, text(want))
	}
	if ok {
		everywhere(t, x, p)
	}
}

// P17.1: the example of the chapter.
func TestExample(t *testing.T) {
	x := sized(6, 1)
	x.Acts[0][0] = shift(5)
	p, ok := agree(t, x)
	if !ok || p.Rows[0][0] != 16384+5 || pack.Act(p, 0, 0) != shift(5) {
		t.Errorf("packed it is %v %t", p, ok)
	}
}

// P17.1: the codes of each kind of action, and of goto entries; all rows are different.
func TestCodes(t *testing.T) {
	literal(t, sample.Table(), api.Packed{
		Rules: []api.Rule{{Left: 3, Right: []int{1}}, {Left: 4}, {Left: 3, Right: []int{4, 2}}, {Right: []int{3}}},
		Terms: 2, Nons: 2,
		Row:  []int{0, 1, 2},
		Rows: [][]uint16{{16385, 32768, 0}, {49152, 32769, 16386}, {0, 16384, 32770}},
		Gow:  []int{0, 1, 2},
		Gows: [][]uint16{{2, 0}, {3, 1}, {0, 0}},
	})
}

// P17.1: the table of a grammar, s : A s | B.
func TestGrammar(t *testing.T) {
	x, e := acts.Of(sample.Grammar("A B", "s", "s", "s : A s", "s : B"))
	if e != api.OK {
		t.Fatalf("the error %d", e)
	}
	literal(t, x, api.Packed{
		Rules: []api.Rule{{Left: 3, Right: []int{1, 3}}, {Left: 3, Right: []int{2}}, {Right: []int{3}}},
		Terms: 2, Nons: 1,
		Row:  []int{0, 0, 1, 2, 3},
		Rows: [][]uint16{{0, 16385, 16386}, {32769, 0, 0}, {49152, 0, 0}, {32768, 0, 0}},
		Gow:  []int{0, 1, 2, 2, 2},
		Gows: [][]uint16{{4}, {5}, {0}},
	})
}

// rows returns a table with these rows, one rule besides the augmented one, and one nonterminal after the terminals.
func rows(list [][]api.Act, gotos ...int) api.Table {
	x := api.Table{Terms: len(list[0]) - 1, Nons: 1, Acts: list}
	x.Rules = []api.Rule{{Left: x.Terms + 1}, {Right: []int{x.Terms + 1}}}
	for _, to := range gotos {
		x.Goto = append(x.Goto, []int{to})
	}
	return x
}

// P17.1, P17.2: equal rows, next to each other and apart; rows that differ in just one entry, the first or the last one, in the kind or
// in the number of the action; the order of their first occurrence.
func TestRows(t *testing.T) {
	for _, x := range []struct {
		list  [][]api.Act
		index []int
		gotos []int
		gow   []int
		gows  [][]uint16
	}{
		{[][]api.Act{{none(), none()}}, []int{0}, []int{-1}, []int{0}, [][]uint16{{0}}},
		{[][]api.Act{{none(), none()}, {none(), none()}}, []int{0, 0}, []int{0, 0}, []int{0, 0}, [][]uint16{{1}}},
		{[][]api.Act{{shift(0), none()}, {none(), shift(0)}, {shift(0), none()}}, []int{0, 1, 0}, []int{2, 1, 0}, []int{0, 1, 2}, [][]uint16{{3}, {2}, {1}}},
		{[][]api.Act{{shift(0), none()}, {shift(1), none()}, {reduce(0), none()}, {accept(), none()}, {none(), none()}},
			[]int{0, 1, 2, 3, 4}, []int{-1, 4, -1, 4, -1}, []int{0, 1, 0, 1, 0}, [][]uint16{{0}, {5}}},
		{[][]api.Act{{none(), none()}, {none(), accept()}, {none(), reduce(0)}, {none(), accept()}, {none(), shift(4)}, {none(), none()}},
			[]int{0, 1, 2, 1, 3, 0}, []int{5, 4, 4, 3, 4, 5}, []int{0, 1, 1, 2, 1, 0}, [][]uint16{{6}, {5}, {4}}},
		{[][]api.Act{{accept()}, {shift(0)}, {accept()}, {shift(0)}, {shift(1)}}, []int{0, 1, 0, 1, 2}, []int{0, -1, 0, 1, 1}, []int{0, 1, 0, 2, 2}, [][]uint16{{1}, {0}, {2}}},
	} {
		p, ok := agree(t, rows(x.list, x.gotos...))
		if !ok || !slices.Equal(p.Row, x.index) || !slices.Equal(p.Gow, x.gow) || text(p.Gows) != text(x.gows) || len(p.Rows) != 1+slices.Max(x.index) {
			t.Errorf("%v: packed it is %v %t", x, p, ok)
		}
		everywhere(t, rows(x.list, x.gotos...), p)
	}
}

// P17.1: rows of actions and rows of goto entries with the same codes are not mixed up.
func TestSameCodes(t *testing.T) {
	literal(t, api.Table{Rules: []api.Rule{{}}, Nons: 1, Acts: [][]api.Act{{none()}, {none()}}, Goto: [][]int{{-1}, {-1}}},
		api.Packed{Rules: []api.Rule{{}}, Nons: 1, Row: []int{0, 0}, Rows: [][]uint16{{0}}, Gow: []int{0, 0}, Gows: [][]uint16{{0}}})
	literal(t, api.Table{Rules: []api.Rule{{}}, Nons: 1, Acts: [][]api.Act{{accept()}, {none()}}, Goto: [][]int{{-1}, {0}}},
		api.Packed{Rules: []api.Rule{{}}, Nons: 1, Row: []int{0, 1}, Rows: [][]uint16{{49152}, {0}}, Gow: []int{0, 1}, Gows: [][]uint16{{0}, {1}}})
}

// P17.1, P3: tables without terminals, without nonterminals, and with nil and empty lists.
func TestNoSymbols(t *testing.T) {
	for _, empty := range [][]int{nil, {}} {
		literal(t, api.Table{Rules: []api.Rule{{Right: empty}}, Terms: 1, Acts: [][]api.Act{{none(), shift(1)}, {accept(), none()}}, Goto: [][]int{empty, nil}},
			api.Packed{Rules: []api.Rule{{}}, Terms: 1, Row: []int{0, 1}, Rows: [][]uint16{{0, 16385}, {49152, 0}}, Gow: []int{0, 0}, Gows: [][]uint16{{}}})
		literal(t, api.Table{Rules: []api.Rule{{}}, Acts: [][]api.Act{{accept()}}, Goto: [][]int{empty}},
			api.Packed{Rules: []api.Rule{{}}, Row: []int{0}, Rows: [][]uint16{{49152}}, Gow: []int{0}, Gows: [][]uint16{nil}})
	}
	literal(t, api.Table{Rules: []api.Rule{{Left: 1}, {}}, Nons: 1, Acts: [][]api.Act{{reduce(0)}}, Goto: [][]int{{0}}},
		api.Packed{Rules: []api.Rule{{Left: 1}, {}}, Nons: 1, Row: []int{0}, Rows: [][]uint16{{32768}}, Gow: []int{0}, Gows: [][]uint16{{1}}})
}

// refused demands of a table that it is not packed.
func refused(t *testing.T, x api.Table) {
	t.Helper()
	if p, ok := pack.Pack(x); ok || text(p) != text(api.Packed{}) {
		t.Errorf("%s: packed it is %s %t", short(x), short(p), ok)
	}
}

// P17.1, P6: tables that are not valid, by each condition of chapter 15.
func TestInvalid(t *testing.T) {
	refused(t, api.Table{})
	refused(t, api.Table{Rules: []api.Rule{}, Acts: [][]api.Act{}, Goto: [][]int{}})
	for _, change := range []func(x *api.Table){
		func(x *api.Table) { x.Rules = nil },
		func(x *api.Table) { x.Acts, x.Goto = nil, nil },
		func(x *api.Table) { x.Goto = nil },
		func(x *api.Table) { x.Goto = x.Goto[:2] },
		func(x *api.Table) { x.Goto = append(x.Goto, []int{-1, -1}) },
		func(x *api.Table) { x.Acts = append(x.Acts, make([]api.Act, 3)) },
		func(x *api.Table) { x.Acts[2] = x.Acts[2][:2] },
		func(x *api.Table) { x.Acts[0] = append(x.Acts[0], none()) },
		func(x *api.Table) { x.Goto[2] = x.Goto[2][:1] },
		func(x *api.Table) { x.Goto[0] = append(x.Goto[0], -1) },
		func(x *api.Table) { x.Rules[0].Left = 2 },
		func(x *api.Table) { x.Rules[1].Left = 5 },
		func(x *api.Table) { x.Rules = append(x.Rules, api.Rule{}) },
		func(x *api.Table) { x.Goto[1][1] = -2 },
		func(x *api.Table) { x.Goto[1][1] = 3 },
		func(x *api.Table) { x.Goto[0][0] = 65536 },
	} {
		x := sample.Table()
		change(&x)
		refused(t, x)
		agree(t, x)
	}
	for _, a := range []api.Act{{N: 1}, {N: -1}, {N: 16384}, shift(-1), shift(3), shift(16384), reduce(-1), reduce(3), {K: api.ActAccept, N: 1}, {K: 4}, {K: -1}, {K: -1, N: 16384},
		{K: math.MaxInt}, {K: math.MinInt, N: math.MinInt}, shift(65536)} {
		x := sample.Table()
		x.Acts[1][2] = a
		refused(t, x)
	}
	for _, n := range []int{math.MinInt, -1, 0, 1, 3, math.MaxInt} {
		x, y := sample.Table(), sample.Table()
		x.Terms, y.Nons = n, n
		refused(t, x)
		refused(t, y)
	}
}

// sized returns a valid table with that many states and rules, where all that is in it is of the first state, but not of the last one.
func sized(states, rules int) api.Table {
	x := api.Table{Rules: make([]api.Rule, rules), Terms: 2, Nons: 1}
	for i := range rules - 1 {
		x.Rules[i].Left = 3
	}
	for range states {
		x.Acts = append(x.Acts, make([]api.Act, 3))
		x.Goto = append(x.Goto, []int{-1})
	}
	x.Acts[0] = []api.Act{accept(), shift(states - 1), none()}
	x.Goto[0] = []int{states - 1}
	if rules > 1 {
		x.Acts[0][2] = reduce(rules - 2)
	}
	return x
}

// P17.1: just so many states and rules as can be packed, with the greatest numbers in codes, and one more.
func TestLimit(t *testing.T) {
	for _, n := range []int{2, 16382, 16383} {
		for _, rules := range []int{1, 16382, 16383} {
			x := sized(n, rules)
			p, ok := agree(t, x)
			if !ok || len(p.Row) != n || len(p.Rules) != rules || len(p.Rows) != 2 || len(p.Gows) != 2 || p.Rows[0][1] != uint16(16384+n-1) || p.Gows[0][0] != uint16(n) {
				t.Fatalf("%d states and %d rules: %s %t", n, rules, short(p), ok)
			}
			if pack.Act(p, 0, 1) != shift(n-1) || pack.Goto(p, 0, 3) != n-1 || pack.Act(p, 0, 0) != accept() || pack.Act(p, n-1, 0) != none() || pack.Goto(p, n-1, 3) != -1 {
				t.Errorf("%d states and %d rules: another action", n, rules)
			}
			if rules > 1 && (p.Rows[0][2] != uint16(32768+rules-2) || pack.Act(p, 0, 2) != reduce(rules-2)) {
				t.Errorf("%d states and %d rules: the greatest rule is %d", n, rules, p.Rows[0][2])
			}
		}
	}
	for _, n := range []int{16384, 16385, 40000, 65536, 70000} {
		for _, x := range []api.Table{sized(n, 1), sized(2, n), sized(n, n), sized(16383, n), sized(n, 16383)} {
			if !acts.Right(x) {
				t.Errorf("%d: the table is not valid", n)
			}
			refused(t, x)
		}
	}
}

// P17.1: rows that are all different, in as many states as can be packed.
func TestManyRows(t *testing.T) {
	x := sized(16383, 2)
	for i := range x.Acts {
		x.Acts[i] = []api.Act{none(), shift(i), none()}
		x.Goto[i] = []int{len(x.Goto) - 1 - i}
	}
	p, ok := pack.Pack(x)
	if !ok || len(p.Rows) != 16383 || len(p.Gows) != 16383 || !pack.Right(p) || text(pack.Unpack(p)) != text(x) {
		t.Fatalf("%d and %d rows, %t", len(p.Rows), len(p.Gows), ok)
	}
	for i := range x.Acts {
		if p.Row[i] != i || p.Gow[i] != i || pack.Act(p, i, 1) != shift(i) || pack.Goto(p, i, 3) != 16382-i {
			t.Fatalf("state %d has the rows %d and %d", i, p.Row[i], p.Gow[i])
		}
	}
	p.Rows[16382][1] = p.Rows[0][1]
	if pack.Right(p) {
		t.Error("the last row is equal to the first one")
	}
}

// P17.1, P6: states and symbols that do not exist, also less than 0 and extreme ones.
func TestNone(t *testing.T) {
	p, _ := agree(t, sample.Table())
	for _, c := range [][2]int{{-1, 0}, {3, 0}, {0, -1}, {0, 3}, {2, 3}, {2, 4}, {3, 3}, {-1, -1}, {math.MinInt, 0}, {math.MaxInt, 0}, {0, math.MinInt}, {0, math.MaxInt}} {
		if a := pack.Act(p, c[0], c[1]); a != none() {
			t.Errorf("Act(%d, %d) is %v", c[0], c[1], a)
		}
	}
	for _, c := range [][2]int{{-1, 3}, {3, 3}, {0, 0}, {0, 1}, {0, 2}, {1, 2}, {1, 5}, {0, -1}, {math.MinInt, 3}, {math.MaxInt, 3}, {1, math.MinInt}, {1, math.MaxInt}} {
		if to := pack.Goto(p, c[0], c[1]); to != -1 {
			t.Errorf("Goto(%d, %d) is %d", c[0], c[1], to)
		}
	}
	asked(t, p)
}

// spoil overwrites all that a packed table and a table have, if they share anything with others.
func spoil(p api.Packed, x api.Table) {
	for _, list := range [][]api.Rule{p.Rules, x.Rules} {
		for i := range list {
			for k := range list[i].Right {
				list[i].Right[k] = -9
			}
			list[i].Left = -9
		}
	}
	for _, list := range append(slices.Concat(x.Goto), p.Row, p.Gow) {
		for k := range list {
			list[k] = -9
		}
	}
	for _, list := range slices.Concat(p.Rows, p.Gows) {
		for k := range list {
			list[k] = 9
		}
	}
	for _, list := range x.Acts {
		clear(list)
	}
}

// P4, P5: results share nothing with arguments nor with each other, and stay the same.
func TestShared(t *testing.T) {
	x := sample.Table()
	p, _ := pack.Pack(x)
	q, _ := pack.Pack(x)
	saved := text(p)
	spoil(q, api.Table{})
	if text(x) != text(sample.Table()) || text(p) != saved {
		t.Errorf("the table is %s, packed %s", text(x), text(p))
	}
	y := pack.Unpack(p)
	spoil(api.Packed{}, pack.Unpack(p))
	spoil(api.Packed{}, x)
	if text(p) != saved || text(y) != text(sample.Table()) {
		t.Errorf("packed it is %s, unpacked %s", text(p), text(y))
	}
	spoil(p, api.Table{})
	if text(y) != text(sample.Table()) {
		t.Errorf("unpacked it is %s", text(y))
	}
	if p, _ := pack.Pack(y); text(p) != saved {
		t.Errorf("then %s, before %s", text(p), saved)
	}
}

// P4: no two lists of a result share anything, though states have the same row.
func TestRowsShareNothing(t *testing.T) {
	p, _ := pack.Pack(sized(4, 3))
	x := pack.Unpack(p)
	for i := range x.Acts {
		x.Acts[i][0], x.Goto[i][0] = api.Act{N: i}, 100+i
		x.Acts[i] = append(x.Acts[i], api.Act{K: -1})
		x.Goto[i] = append(x.Goto[i], -7)
	}
	for i := range x.Acts {
		if x.Acts[i][0].N != i || x.Goto[i][0] != 100+i || x.Acts[i][1].K == -1 {
			t.Errorf("state %d has %v and %v", i, x.Acts[i], x.Goto[i])
		}
	}
	for i := range p.Rows {
		p.Rows[i] = append(p.Rows[i], 7)
		p.Rows[i][0] = uint16(i)
	}
	for i := range p.Gows {
		p.Gows[i] = append(p.Gows[i], 7)
		p.Gows[i][0] = uint16(100 + i)
	}
	if p.Rows[0][0] != 0 || p.Rows[1][0] != 1 || p.Gows[0][0] != 100 || p.Gows[1][0] != 101 {
		t.Errorf("the rows are %v and %v", p.Rows, p.Gows)
	}
}
