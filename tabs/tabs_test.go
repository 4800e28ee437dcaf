package tabs_test

import (
	"bytes"
	"math"
	"runtime"
	"slices"
	"testing"

	"conch/acts"
	"conch/api"
	"conch/pack"
	"conch/sample"
	"conch/tabs"
)

// P18.1: the example of the chapter.
func TestExample(t *testing.T) {
	p, _ := pack.Pack(sample.Table())
	if b := written(t, p); !bytes.HasPrefix(b, []byte{76, 84, 49, 0, 2}) {
		t.Errorf("it is %v", b)
	}
}

// handmade is the encoding of the packed table of the samples, worked out by hand.
var handmade = []byte{
	'L', 'T', '1',
	0, 2, 0, 1, // symbols
	0, 3, // rules
	0, 3, 0, 0,
	0, 3, 0, 2, 0, 1, 0, 2,
	0, 0, 0, 1, 0, 3,
	0, 4, // states
	0, 0, 0, 1, 0, 0, 0, 2,
	0, 3, // rows of actions
	0, 0, 64, 1, 64, 3,
	192, 0, 64, 1, 64, 3,
	128, 1, 128, 0, 0, 0,
	0, 0, 0, 0, 0, 1, 0, 0,
	0, 2, // rows of goto entries
	0, 0,
	0, 4,
}

// P18.1, P18.2: each number of an encoding stands at its place.
func TestHandmade(t *testing.T) {
	if b := written(t, sample.Packed()); !bytes.Equal(b, handmade) {
		t.Errorf("it is %v, want %v", b, handmade)
	}
	p, e := tabs.Of(handmade)
	if e != api.OK || text(p) != text(sample.Packed()) {
		t.Errorf("it is %s with the error %d", text(p), e)
	}
}

// P18.1: the encoding of the table of a grammar, s : A s | B.
func TestGrammar(t *testing.T) {
	x, _ := acts.Of(sample.Grammar("A B", "s", "s", "s : A s", "s : B"))
	p, _ := pack.Pack(x)
	want := encoded(2, 1,
		3, 3, 2, 1, 3, 3, 1, 2, 0, 1, 3,
		5, 0, 0, 1, 2, 3,
		4, 0, 16385, 16386, 32769, 0, 0, 49152, 0, 0, 32768, 0, 0,
		0, 1, 2, 2, 2,
		3, 4, 5, 0)
	if b := written(t, p); !bytes.Equal(b, want) {
		t.Errorf("it is %v, want %v", b, want)
	}
}

// fails demands an error of bytes, and nothing beside it.
func fails(t *testing.T, b []byte, want api.Errno) {
	t.Helper()
	if e := read(t, b); e != want {
		t.Errorf("%s has the error %d, want %d", short(b), e, want)
	}
}

// P18.1: each of the first three bytes wrong, or not there; the first one that differs counts.
func TestHead(t *testing.T) {
	fails(t, nil, api.ErrEnd)
	fails(t, []byte{}, api.ErrEnd)
	for _, b := range []string{"L", "LT", "LT1"} {
		fails(t, []byte(b), api.ErrEnd)
	}
	for _, b := range []string{"T", "1", "\x00", "l", "LL", "L1", "Lt", "TT", "LTT", "LT0", "LT2", "LT\x01", "XXX", "XT1", "TL1", "LXX", "L1T", "\xffLT1"} {
		fails(t, []byte(b), api.ErrForm)
	}
	for i := range 3 {
		for c := range 256 {
			if b := slices.Clone(handmade); c != int(b[i]) {
				b[i] = byte(c)
				for _, n := range []int{i + 1, 3, 4, len(b) - 1, len(b)} {
					fails(t, b[:max(n, i+1)], api.ErrForm)
				}
				fails(t, append(b, 0), api.ErrForm)
			}
		}
		fails(t, handmade[i+1:], api.ErrForm)
	}
}

// P18.1: bytes that end at each place of an encoding, between numbers and within them.
func TestEnds(t *testing.T) {
	p, _ := pack.Pack(sample.Table())
	for _, b := range [][]byte{handmade, tabs.Bytes(p), encoded(0, 0, 1, 0, 0, 1, 0, 1, 0, 0, 1)} {
		for n := range b {
			fails(t, b[:n:n], api.ErrEnd)
		}
		if e := read(t, b); e != api.OK {
			t.Errorf("%v has the error %d", b, e)
		}
	}
}

// P18.1: bytes that are left over.
func TestLeftOver(t *testing.T) {
	for _, rest := range [][]byte{{0}, {1}, {255}, {0, 0}, {0, 1}, {0, 0, 0}, {'L', 'T', '1'}, make([]byte, 1000), handmade} {
		fails(t, slices.Concat(handmade, rest), api.ErrForm)
		fails(t, slices.Concat(encoded(0, 0, 1, 0, 0, 1, 0, 1, 0, 0, 1), rest), api.ErrForm)
	}
}

// P18.1: bytes that could all be read, but of a packed table that is not valid; with a byte less they end too early, whatever else is wrong.
func TestNotValid(t *testing.T) {
	for _, list := range [][]int{
		{0, 0, 0, 0, 0, 0},                             // no rules, no states
		{0, 0, 1, 0, 0, 0, 0, 0},                       // no states
		{0, 0, 0, 1, 0, 1, 0, 0, 1},                    // no rules
		{0, 0, 1, 0, 0, 1, 0, 0, 0, 1},                 // no row of actions
		{0, 0, 1, 0, 0, 1, 0, 1, 0, 0, 0},              // no row of goto entries
		{0, 0, 1, 0, 0, 1, 0, 2, 0, 49152, 0, 1},       // a row that no state has
		{0, 0, 1, 0, 0, 1, 0, 1, 0, 0, 2},              // and of goto entries, without codes
		{0, 0, 1, 0, 0, 1, 1, 1, 0, 0, 1},              // an index of no row
		{0, 0, 1, 0, 0, 1, 0, 1, 0, 1, 1},              // and of goto entries
		{0, 0, 1, 0, 0, 1, 0, 1, 1, 0, 1},              // a code of no action
		{0, 0, 1, 0, 0, 1, 0, 1, 16385, 0, 1},          // a shift to no state
		{0, 0, 1, 0, 0, 1, 0, 1, 32768, 0, 1},          // a reduction by no rule
		{0, 0, 1, 0, 0, 1, 0, 1, 49153, 0, 1},          // an accepting action with a number
		{0, 0, 2, 0, 0, 0, 0, 1, 0, 1, 0, 0, 1},        // a left side that is no nonterminal
		{0, 1, 1, 0, 0, 1, 0, 1, 0, 0, 1, 2},           // a goto entry of no state
		{0, 0, 1, 0, 0, 2, 0, 1, 2, 0, 0, 0, 0, 1},     // equal rows
		{0, 0, 1, 0, 0, 2, 1, 0, 2, 0, 49152, 0, 0, 1}, // rows in another order
	} {
		b := encoded(list...)
		if p := cut(list); pack.Right(p) || tabs.Bytes(p) != nil {
			t.Errorf("%v is valid, and encoded as %v", p, tabs.Bytes(p))
		}
		fails(t, b, api.ErrForm)
		fails(t, append(slices.Clip(b), 0), api.ErrForm)
		for n := 3; n < len(b); n++ {
			fails(t, b[:n:n], api.ErrEnd)
		}
	}
}

// P18.1, P18.2: counts and lengths of 0 where a packed table may have them.
func TestNothing(t *testing.T) {
	for _, x := range []struct {
		p    api.Packed
		list []int
	}{
		{api.Packed{Rules: []api.Rule{{}}, Row: []int{0}, Rows: [][]uint16{{49152}}, Gow: []int{0}, Gows: [][]uint16{nil}}, []int{0, 0, 1, 0, 0, 1, 0, 1, 49152, 0, 1}},
		{api.Packed{Rules: []api.Rule{{Right: []int{}}}, Row: []int{0}, Rows: [][]uint16{{0}}, Gow: []int{0}, Gows: [][]uint16{{}}}, []int{0, 0, 1, 0, 0, 1, 0, 1, 0, 0, 1}},
		{api.Packed{Rules: []api.Rule{{Right: []int{0}}}, Terms: 1, Row: []int{0, 1}, Rows: [][]uint16{{0, 16385}, {49152, 0}}, Gow: []int{0, 0}, Gows: [][]uint16{nil}},
			[]int{1, 0, 1, 0, 1, 0, 2, 0, 1, 2, 0, 16385, 49152, 0, 0, 0, 1}},
		{api.Packed{Rules: []api.Rule{{Left: 1}, {}}, Nons: 1, Row: []int{0}, Rows: [][]uint16{{32768}}, Gow: []int{0}, Gows: [][]uint16{{1}}},
			[]int{0, 1, 2, 1, 0, 0, 0, 1, 0, 1, 32768, 0, 1, 1}},
	} {
		b := written(t, x.p)
		if !bytes.Equal(b, encoded(x.list...)) {
			t.Errorf("%v is encoded as %v", x.p, b)
		}
		if e := read(t, encoded(x.list...)); e != api.OK {
			t.Errorf("%v has the error %d", x.list, e)
		}
	}
}

// P18.1: packed tables that are not valid have no encoding.
func TestNoEncoding(t *testing.T) {
	for _, change := range []func(p *api.Packed){
		func(p *api.Packed) { *p = api.Packed{} },
		func(p *api.Packed) { p.Rules = nil },
		func(p *api.Packed) { p.Rules[1].Left = 2 },
		func(p *api.Packed) { p.Row = p.Row[:3] },
		func(p *api.Packed) { p.Gow = append(p.Gow, 0) },
		func(p *api.Packed) { p.Row[0] = -1 },
		func(p *api.Packed) { p.Gow[3] = 2 },
		func(p *api.Packed) { p.Row, p.Gow = nil, nil },
		func(p *api.Packed) { p.Rows = append(p.Rows, p.Rows[0]) },
		func(p *api.Packed) { p.Rows[2] = p.Rows[2][:2] },
		func(p *api.Packed) { p.Rows[0][1] = 16388 },
		func(p *api.Packed) { p.Gows[1][0] = 5 },
		func(p *api.Packed) { p.Gows[0] = nil },
		func(p *api.Packed) { p.Terms = -1 },
		func(p *api.Packed) { p.Terms = 65536 },
		func(p *api.Packed) { p.Nons = math.MaxInt },
	} {
		p := sample.Packed()
		change(&p)
		if b := written(t, p); len(b) != 0 {
			t.Errorf("%v is encoded as %v", p, b)
		}
	}
}

// fits demands of a packed table that it is valid, and that it has an encoding only if its numbers fit.
func fits(t *testing.T, p api.Packed, want bool) {
	t.Helper()
	if !pack.Right(p) {
		t.Errorf("%s is not valid", short(p))
	}
	if b := written(t, p); (len(b) > 0) != want {
		t.Errorf("%s is encoded as %s", short(p), short(b))
	}
}

// P18.1: the numbers that a packed table is free to have, in each rule, and the lengths of right sides, at the limit and beyond it.
func TestNumbers(t *testing.T) {
	for _, n := range []int{math.MinInt, -65536, -65535, -1, 0, 1, 255, 256, 257, 65534, 65535, 65536, 65537, 131071, 1 << 32, math.MaxInt} {
		want := n >= 0 && n <= 65535
		for i := range 3 {
			for _, list := range [][]int{{n}, {n, 1}, {1, n}, {1, 2, n, 3}} {
				p := sample.Packed()
				p.Rules[i].Right = list
				fits(t, p, want)
			}
		}
		p := sample.Packed()
		p.Rules[2].Left = n
		fits(t, p, want)
		// One number that fits does not make up for one that does not.
		p.Rules[1].Right = []int{65536, 1}
		fits(t, p, false)
		p.Rules[1].Right = []int{65535, 0}
		fits(t, p, want)
	}
	for _, n := range []int{65534, 65535, 65536, 65537, 131072, 131074} {
		for i := range 3 {
			p := sample.Packed()
			p.Rules[i].Right = slices.Repeat([]int{7}, n)
			fits(t, p, n <= 65535)
		}
	}
}

// P18.1, P18.2: numbers of symbols at the limit and beyond it. The rows of actions have one code more.
func TestManySymbols(t *testing.T) {
	for _, n := range []int{65533, 65534, 65535, 65536, 65537, 131072} {
		row, gow := make([]uint16, n+1), make([]uint16, n)
		row[n], gow[n-1] = 49152, 1
		fits(t, api.Packed{Rules: []api.Rule{{Left: n}}, Terms: n, Row: []int{0}, Rows: [][]uint16{row}, Gow: []int{0}, Gows: [][]uint16{nil}}, n <= 65535)
		fits(t, api.Packed{Rules: []api.Rule{{}}, Terms: n, Row: []int{0}, Rows: [][]uint16{row}, Gow: []int{0}, Gows: [][]uint16{nil}}, n <= 65535)
		fits(t, api.Packed{Rules: []api.Rule{{}}, Nons: n, Row: []int{0}, Rows: [][]uint16{{0}}, Gow: []int{0}, Gows: [][]uint16{gow}}, n <= 65535)
		// The left side is the last nonterminal.
		fits(t, api.Packed{Rules: []api.Rule{{Left: n}, {}}, Nons: n, Row: []int{0}, Rows: [][]uint16{{0}}, Gow: []int{0}, Gows: [][]uint16{gow}}, n <= 65535)
		// The left side is the only nonterminal, behind all terminals.
		fits(t, api.Packed{Rules: []api.Rule{{Left: n + 1}, {}}, Terms: n, Nons: 1, Row: []int{0}, Rows: [][]uint16{row}, Gow: []int{0}, Gows: [][]uint16{{0}}}, n < 65535)
	}
}

// P18.1, P18.2: as many states, rows and rules as a packed table can have; and counts in bytes that are greater.
func TestManyStates(t *testing.T) {
	for _, n := range []int{255, 256, 257, 16383} {
		p := api.Packed{Rules: make([]api.Rule, n), Nons: 1}
		for i := range n {
			p.Rules[i].Left = 1
			p.Row, p.Rows = append(p.Row, i), append(p.Rows, []uint16{uint16(16384 + n - 1 - i)})
			p.Gow, p.Gows = append(p.Gow, i), append(p.Gows, []uint16{uint16(n - i)})
		}
		fits(t, p, true)
		p.Rows, p.Gows = append(p.Rows, []uint16{49152}), append(p.Gows, []uint16{0})
		p.Row, p.Gow = append(p.Row, n), append(p.Gow, n)
		if n < 16383 {
			fits(t, p, true)
		} else {
			written(t, p)
			fails(t, encoded(numbers(p)...), api.ErrForm)
			fails(t, encoded(numbers(p)[:50000]...), api.ErrEnd)
		}
	}
	for _, n := range []int{16384, 40000, 65535} {
		p := api.Packed{Rules: []api.Rule{{}}, Row: make([]int, n), Rows: [][]uint16{{0}}, Gow: make([]int, n), Gows: [][]uint16{nil}}
		fails(t, encoded(numbers(p)...), api.ErrForm)
		p.Row, p.Gow, p.Gows = []int{0}, []int{0}, make([][]uint16, n)
		fails(t, encoded(numbers(p)...), api.ErrForm)
		p.Gows, p.Rules = [][]uint16{nil}, make([]api.Rule, n)
		fails(t, encoded(numbers(p)...), api.ErrForm)
	}
}

// P1, P18.1: counts that ask for far more bytes than there are, together for more than memory could hold; what is not there takes no room.
func TestCounts(t *testing.T) {
	full := slices.Repeat([]int{65535}, 100)
	lists := [][]int{full}
	for _, begin := range [][]int{
		nil, {0}, {65535, 65535}, {0, 0}, {0, 0, 65535, 0}, {0, 0, 1, 0}, {0, 0, 1, 0, 0}, {65535, 65535, 1, 0, 0, 1, 0}, {0, 0, 1, 0, 0, 1, 0},
		{65535, 65535, 1, 0, 0, 0}, {65535, 65535, 1, 0, 0, 0, 0}, {0, 65535, 0, 0, 0},
	} {
		lists = append(lists, begin, append(begin, 65535), append(begin, full...))
	}
	var before, after runtime.MemStats
	runtime.ReadMemStats(&before)
	for _, list := range lists {
		fails(t, encoded(list...), api.ErrEnd)
		fails(t, append(encoded(list...), 255), api.ErrEnd)
	}
	runtime.ReadMemStats(&after)
	if took := after.TotalAlloc - before.TotalAlloc; took > 1<<20 {
		t.Errorf("%d bytes of memory for %d encodings", took, len(lists))
	}
	// Rows without codes need no bytes, so that as many as can be counted are there.
	fails(t, encoded(0, 0, 0, 0, 0, 65535), api.ErrForm)
}

// spoil overwrites all that a packed table has.
func spoil(p api.Packed) {
	for i := range p.Rules {
		p.Rules[i].Left = -9
		for k := range p.Rules[i].Right {
			p.Rules[i].Right[k] = -9
		}
	}
	for _, list := range [][]int{p.Row, p.Gow} {
		for k := range list {
			list[k] = -9
		}
	}
	for _, list := range slices.Concat(p.Rows, p.Gows) {
		clear(list)
	}
}

// P4, P5: results share nothing with arguments nor with each other, and stay the same.
func TestShared(t *testing.T) {
	p := sample.Packed()
	b, c := tabs.Bytes(p), tabs.Bytes(p)
	spoil(p)
	if clear(c); !bytes.Equal(b, handmade) {
		t.Errorf("it is %v", b)
	}
	p, _ = tabs.Of(b)
	q, _ := tabs.Of(b)
	clear(b)
	if spoil(q); text(p) != text(sample.Packed()) {
		t.Errorf("it is %v", p)
	}
}

// P4: no two lists of a result share anything: each of them can grow.
func TestListsShareNothing(t *testing.T) {
	p, _ := tabs.Of(handmade)
	for i := range p.Rules {
		p.Rules[i].Right = append(p.Rules[i].Right, -1, -2, -3)
	}
	p.Row, p.Gow = append(p.Row, -1, -2), append(p.Gow, -1, -2)
	for _, rows := range [][][]uint16{p.Rows, p.Gows} {
		for i := range rows {
			rows[i] = append(rows[i], 9, 9, 9)
		}
	}
	want := sample.Packed()
	for i, r := range p.Rules {
		if !slices.Equal(r.Right[:len(r.Right)-3], want.Rules[i].Right) {
			t.Errorf("rule %d is %v", i, r)
		}
	}
	for i, row := range slices.Concat(p.Rows, p.Gows) {
		if !slices.Equal(row[:len(row)-3], slices.Concat(want.Rows, want.Gows)[i]) {
			t.Errorf("row %d is %v", i, row)
		}
	}
	if !slices.Equal(p.Row[:4], want.Row) || !slices.Equal(p.Gow[:4], want.Gow) {
		t.Errorf("the indices are %v and %v", p.Row, p.Gow)
	}
}
