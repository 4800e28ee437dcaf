package pack_test

import (
	"fmt"
	"math"
	"slices"
	"testing"

	"conch/acts"
	"conch/api"
	"conch/gram"
	"conch/pack"
	"conch/sample"
)

// The models are the chapter once more by other means. Rows are held against each of those before them, codes are counted and not
// composed, and what packed tables there are is also known by packing all tables of a few small sizes.

// short renders a value, but not more than the beginning of a long one.
func short(value any) string {
	text := fmt.Sprint(value)
	return text[:min(len(text), 300)]
}

// text renders a table or a packed table, with nil and empty lists alike.
func text(x any) string {
	return fmt.Sprint(x)
}

// stop ends a test that has failed: other tables would tell the same again.
func stop(t *testing.T) {
	t.Helper()
	if t.Failed() {
		t.FailNow()
	}
}

// model is a model of Pack.
func model(x api.Table) (api.Packed, bool) {
	p := api.Packed{Rules: x.Rules, Terms: x.Terms, Nons: x.Nons}
	if !acts.Right(x) || len(x.Acts) >= 16384 || len(x.Rules) >= 16384 {
		return api.Packed{}, false
	}
	for i := range x.Acts {
		var row, gow []uint16
		for _, a := range x.Acts[i] {
			row = append(row, uint16(16384*a.K+a.N))
		}
		for _, to := range x.Goto[i] {
			gow = append(gow, uint16(1+to))
		}
		p.Row, p.Rows = join(p.Row, p.Rows, row)
		p.Gow, p.Gows = join(p.Gow, p.Gows, gow)
	}
	return p, true
}

// join adds the row of a state to the rows before it.
func join(index []int, rows [][]uint16, row []uint16) ([]int, [][]uint16) {
	for k, old := range rows {
		if slices.Equal(old, row) {
			return append(index, k), rows
		}
	}
	return append(index, len(rows)), append(rows, row)
}

// unpacked is a model of Unpack and of Right: the only table whose packed form a packed table can be, if it is.
func unpacked(p api.Packed) (api.Table, bool) {
	x := api.Table{Rules: p.Rules, Terms: p.Terms, Nons: p.Nons}
	for _, k := range p.Row {
		if k < 0 || k >= len(p.Rows) {
			return api.Table{}, false
		}
		var row []api.Act
		for _, code := range p.Rows[k] {
			row = append(row, api.Act{K: int(code) / 16384, N: int(code) % 16384})
		}
		x.Acts = append(x.Acts, row)
	}
	for _, k := range p.Gow {
		if k < 0 || k >= len(p.Gows) {
			return api.Table{}, false
		}
		var row []int
		for _, code := range p.Gows[k] {
			row = append(row, int(code)-1)
		}
		x.Goto = append(x.Goto, row)
	}
	if back, ok := model(x); !ok || text(back) != text(p) {
		return api.Table{}, false
	}
	return x, true
}

// act is a model of Act for any packed table.
func act(p api.Packed, state, term int) api.Act {
	code := find(p.Row, p.Rows, state, term)
	switch {
	case term > 0 && term > p.Terms:
		return none()
	case code >= 16384 && code < 2*16384:
		return shift(code - 16384)
	case code >= 2*16384 && code < 3*16384:
		return reduce(code - 2*16384)
	case code == 3*16384:
		return accept()
	}
	return none()
}

// leads is a model of Goto for any packed table. Symbols are counted up to the one that is asked for: past the terminals, one after the
// other, as far as there are nonterminals and codes for them.
func leads(p api.Packed, state, s int) int {
	number := uint64(max(p.Terms, 0))
	for k := range min(max(p.Nons, 0), 99) {
		number++
		if s <= 0 || uint64(s) != number {
			continue
		}
		to := find(p.Gow, p.Gows, state, k) - 1
		if to < len(p.Row) || to < len(p.Gow) {
			return to
		}
	}
	return -1
}

// find looks for code k in the row of a state. There is no code where it returns 0.
func find(index []int, rows [][]uint16, state, k int) int {
	for i, at := range index {
		for j, row := range rows {
			if i == state && j == at && k >= 0 && k < len(row) {
				return int(row[k])
			}
		}
	}
	return 0
}

// numbers are those within tables, around them, and the extreme ones.
var numbers = []int{math.MinInt, math.MinInt + 1, -5, -2, -1, 0, 1, 2, 3, 4, 5, 6, 7, math.MaxInt - 1, math.MaxInt}

// asked demands of any packed table what the models say, and returns whether it is the packed form of a table.
func asked(t *testing.T, p api.Packed) bool {
	t.Helper()
	before := text(p)
	for _, i := range numbers {
		for _, s := range numbers {
			if a, want := pack.Act(p, i, s), act(p, i, s); a != want {
				t.Errorf("%s: Act(%d, %d) is %v, want %v", short(p), i, s, a, want)
			}
			if to, want := pack.Goto(p, i, s), leads(p, i, s); to != want {
				t.Errorf("%s: Goto(%d, %d) is %d, want %d", short(p), i, s, to, want)
			}
		}
	}
	x, ok := unpacked(p)
	if got := pack.Right(p); got != ok {
		t.Errorf("%s: Right is %t, want %t", short(p), got, ok)
	}
	if got := pack.Unpack(p); text(got) != text(x) {
		t.Errorf("%s: unpacked it is %s, want %s", short(p), short(got), short(x))
	}
	if after := text(p); after != before {
		t.Errorf("%s was modified: %s", short(before), short(after))
	}
	stop(t)
	return ok
}

// agree demands of any table that it is packed as the model does it and unpacked again, and returns whether it is packed.
func agree(t *testing.T, x api.Table) (api.Packed, bool) {
	t.Helper()
	before := text(x)
	p, ok := pack.Pack(x)
	want, can := model(x)
	if ok != can || text(p) != text(want) {
		t.Errorf("%s: packed it is %s %t, want %s %t", short(x), short(p), ok, short(want), can)
	}
	if ok && (!pack.Right(p) || text(pack.Unpack(p)) != before) {
		t.Errorf("%s: packed it is %s, is right: %t, and unpacked again %s", short(x), short(p), pack.Right(p), short(pack.Unpack(p)))
	}
	if after := text(x); after != before {
		t.Errorf("%s was modified: %s", short(before), short(after))
	}
	stop(t)
	return p, ok
}

// everywhere demands of a packed table the actions and goto entries of the table, and nothing around them; and rows that are all
// different and no more than the states.
func everywhere(t *testing.T, x api.Table, p api.Packed) {
	t.Helper()
	for i := -2; i < len(x.Acts)+2; i++ {
		for s := -2; s < x.Terms+x.Nons+3; s++ {
			a, to := api.Act{}, -1
			if here := i >= 0 && i < len(x.Acts); here && s >= 0 && s <= x.Terms {
				a = x.Acts[i][s]
			} else if here && s > x.Terms && s <= x.Terms+x.Nons {
				to = x.Goto[i][s-x.Terms-1]
			}
			if pack.Act(p, i, s) != a || pack.Goto(p, i, s) != to || acts.Act(x, i, s) != a || acts.Goto(x, i, s) != to {
				t.Errorf("%s: in state %d with symbol %d %v and %d, want %v and %d", short(p), i, s, pack.Act(p, i, s), pack.Goto(p, i, s), a, to)
			}
		}
	}
	for _, rows := range [][][]uint16{p.Rows, p.Gows} {
		for i, row := range rows {
			if slices.ContainsFunc(rows[:i], func(old []uint16) bool { return slices.Equal(old, row) }) {
				t.Errorf("%s: row %d is there already", short(p), i)
			}
		}
		if len(rows) > len(x.Acts) {
			t.Errorf("%s: %d rows for %d states", short(p), len(rows), len(x.Acts))
		}
	}
	stop(t)
}

// tables demands of the table of a grammar all that the chapter says, and returns how many states it has and how many rows less.
func tables(t *testing.T, g api.Gram) (states, fewer int) {
	t.Helper()
	x, e := acts.Of(g)
	if e != api.OK {
		if p, ok := pack.Pack(x); ok || text(p) != text(api.Packed{}) {
			t.Fatalf("%s: %s with the error %d", short(g), short(p), e)
		}
		return 0, 0
	}
	p, ok := agree(t, x)
	if !ok {
		t.Fatalf("%s: the table is not packed", short(g))
	}
	everywhere(t, x, p)
	return len(x.Acts), 2*len(x.Acts) - len(p.Rows) - len(p.Gows)
}

// P17.1, P17.2: the tables of small grammars and of strewn ones.
func TestGrammars(t *testing.T) {
	states, fewer := 0, 0
	count := func(g api.Gram) {
		t.Helper()
		n, less := tables(t, g)
		states, fewer = states+n, fewer+less
	}
	for g := range sample.Small("A B", "s t u", "s : t u | s : s A | s : B | t : | t : u | t : t A | u : s | u : B | u :") {
		count(g)
	}
	for g := range sample.Small("", "s t", "s : | s : t | s : t t | t : | t : s") {
		count(g)
	}
	for g := range sample.Strewn(600, sample.Size{Terms: 6, Nons: 4, Rules: 2, Right: 4}) {
		if gram.Check(g) == api.OK {
			count(g)
		}
	}
	if states < 3000 || fewer < 1500 {
		t.Errorf("%d states with %d rows less", states, fewer)
	}
}

// P17.1, P17.2: grammars of the greatest size, and automata of just so many states as there may be.
func TestLargeGrammars(t *testing.T) {
	for _, right := range []int{1, 2, api.MaxRight - 1} {
		tables(t, sample.Around(right))
	}
	for _, n := range []int{3, 4, 100, 1000, api.MaxStates} {
		states, fewer := tables(t, sample.Sharp(n))
		// All states but the first one have no goto entry, so that two rows do for them.
		if states != n || fewer < n-2 {
			t.Errorf("%d states with %d rows less, want %d", states, fewer, n)
		}
	}
}

// P1, P17.1: strewn tables, valid ones and others.
func TestLooseTables(t *testing.T) {
	counts := map[bool]int{}
	for x := range sample.Loose(20000) {
		p, ok := agree(t, x)
		counts[ok]++
		if ok {
			everywhere(t, x, p)
			asked(t, p)
		} else if text(p) != text(api.Packed{}) {
			t.Fatalf("%s: %s", short(x), short(p))
		}
	}
	if counts[true] < 1000 || counts[false] < 1000 {
		t.Errorf("%v", counts)
	}
}

// lists returns all lists of n of these elements.
func lists[E any](n int, pool []E) [][]E {
	if n == 0 {
		return [][]E{nil}
	}
	var all [][]E
	for _, list := range lists(n-1, pool) {
		for _, x := range pool {
			all = append(all, append(slices.Clip(list), x))
		}
	}
	return all
}

// upTo returns all lists of at most n of these elements.
func upTo[E any](n int, pool []E) [][]E {
	var all [][]E
	for k := range n + 1 {
		all = append(all, lists(k, pool)...)
	}
	return all
}

// some returns the packed tables that have other indices and rows of one kind than p, of these numbers.
func some(p api.Packed, kind int, codes []uint16) []api.Packed {
	var all []api.Packed
	for _, rows := range upTo(2, upTo(2, codes)) {
		for _, index := range upTo(2, []int{-1, 0, 1, 2}) {
			next := p
			if kind == 0 {
				next.Row, next.Rows = index, rows
			} else {
				next.Gow, next.Gows = index, rows
			}
			all = append(all, next)
		}
	}
	return all
}

// every returns the packed forms of all valid tables of one or two states with these rules and nonterminals, and without terminals.
func every(rules []api.Rule, nons int) map[string]bool {
	found := map[string]bool{}
	for states := 1; states <= 2; states++ {
		can, targets := []api.Act{none(), accept()}, []int{-1}
		for i := range states {
			can, targets = append(can, shift(i)), append(targets, i)
		}
		for i := range len(rules) - 1 {
			can = append(can, reduce(i))
		}
		for _, rows := range lists(states, lists(1, can)) {
			for _, gows := range lists(states, lists(nons, targets)) {
				p, ok := model(api.Table{Rules: rules, Nons: nons, Acts: rows, Goto: gows})
				found[text(p)] = ok
			}
		}
	}
	return found
}

// P17.1: of all packed tables of a few sizes just those are right that are the packed form of one of all tables.
func TestAllSmall(t *testing.T) {
	counts := map[bool]int{}
	for nons, rules := range [][]api.Rule{{{}}, {{Left: 1}, {}}} {
		known := every(rules, nons)
		for _, codes := range [][]uint16{{0}, {0, 0}, {0, 1}} {
			base := api.Table{Rules: rules, Nons: nons}
			for _, code := range codes {
				base.Acts = append(base.Acts, []api.Act{shift(int(code))})
				base.Goto = append(base.Goto, slices.Repeat([]int{int(code) - 1}, nons))
			}
			p, ok := agree(t, base)
			if !ok {
				t.Fatalf("%s is not packed", short(base))
			}
			for _, p := range slices.Concat(some(p, 0, []uint16{0, 1, 16385, 32768, 49152}), some(p, 1, []uint16{0, 1, 2, 3})) {
				got := pack.Right(p)
				if got != known[text(p)] || (len(pack.Unpack(p).Acts) > 0) != got {
					t.Fatalf("%s: Right is %t, want %t", short(p), got, known[text(p)])
				}
				counts[got]++
			}
		}
	}
	if counts[true] < 50 || counts[false] < 100000 {
		t.Errorf("%v", counts)
	}
}
