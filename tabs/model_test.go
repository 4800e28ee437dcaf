package tabs_test

import (
	"bytes"
	"encoding/binary"
	"fmt"
	"slices"
	"testing"

	"conch/acts"
	"conch/api"
	"conch/gram"
	"conch/pack"
	"conch/sample"
	"conch/tabs"
)

// The models are the chapter once more by other means: the numbers of a packed table are listed first and then turned into bytes; and
// of bytes it is first counted on a stack what must still come, and only when nothing is missing or left over is a table cut out of them.

// short renders a value, but not more than the beginning of a long one.
func short(value any) string {
	text := fmt.Sprint(value)
	return text[:min(len(text), 300)]
}

// text renders a packed table, with nil and empty lists alike.
func text(p api.Packed) string {
	return fmt.Sprint(p)
}

// stop ends a test that has failed: other tables would tell the same again.
func stop(t *testing.T) {
	t.Helper()
	if t.Failed() {
		t.FailNow()
	}
}

// numbers lists the numbers of an encoding.
func numbers(p api.Packed) []int {
	list := []int{p.Terms, p.Nons, len(p.Rules)}
	for _, r := range p.Rules {
		list = append(append(list, r.Left, len(r.Right)), r.Right...)
	}
	list = append(append(append(list, len(p.Row)), p.Row...), len(p.Rows))
	for _, code := range slices.Concat(p.Rows...) {
		list = append(list, int(code))
	}
	list = append(append(list, p.Gow...), len(p.Gows))
	for _, code := range slices.Concat(p.Gows...) {
		list = append(list, int(code))
	}
	return list
}

// encoded turns numbers into an encoding.
func encoded(list ...int) []byte {
	b := []byte{76, 84, 49}
	for _, n := range list {
		b = binary.BigEndian.AppendUint16(b, uint16(n))
	}
	return b
}

// bytesModel is a model of Bytes.
func bytesModel(p api.Packed) []byte {
	list := numbers(p)
	if !pack.Right(p) || slices.Min(list) < 0 || slices.Max(list) > 65535 {
		return nil
	}
	return encoded(list...)
}

// What comes in an encoding.
const (
	terms = iota
	nons
	rules
	left
	right
	states
	rows
	gows
	other
)

// due is what must still come, and how often.
type due struct {
	what  int
	times int
}

// missing reports whether an encoding that begins with these numbers must go on, and how many numbers are left over.
func missing(list []int) (more bool, over int) {
	stack := []due{{states, 1}, {rules, 1}, {nons, 1}, {terms, 1}}
	terminals, nonterminals, rights := 0, 0, 0
	for i, n := range list {
		for len(stack) > 0 && stack[len(stack)-1].times == 0 {
			stack = stack[:len(stack)-1]
		}
		if len(stack) == 0 {
			return false, len(list) - i
		}
		top := &stack[len(stack)-1]
		top.times--
		switch top.what {
		case terms:
			terminals = n
		case nons:
			nonterminals = n
		case rules:
			rights = n
			stack = append(stack, due{left, min(n, 1)})
		case left:
			stack = append(stack, due{right, 1})
		case right:
			rights--
			stack = append(stack, due{left, min(rights, 1)}, due{other, n})
		case states:
			stack = append(stack, due{gows, 1}, due{other, n}, due{rows, 1}, due{other, n})
		case rows:
			stack = append(stack, due{other, n * (terminals + 1)})
		case gows:
			stack = append(stack, due{other, n * nonterminals})
		}
	}
	return slices.ContainsFunc(stack, func(d due) bool { return d.times > 0 }), 0
}

// cut cuts a packed table out of the numbers of a whole encoding.
func cut(list []int) api.Packed {
	take := func(n int) []int {
		var part []int
		part, list = list[:n:n], list[n:]
		return part
	}
	p := api.Packed{Terms: take(1)[0], Nons: take(1)[0]}
	p.Rules = make([]api.Rule, take(1)[0])
	for i := range p.Rules {
		p.Rules[i].Left = take(1)[0]
		p.Rules[i].Right = take(take(1)[0])
	}
	n := take(1)[0]
	table := func(columns int) ([]int, [][]uint16) {
		index, rows := take(n), make([][]uint16, take(1)[0])
		for i := range rows {
			for _, code := range take(columns) {
				rows[i] = append(rows[i], uint16(code))
			}
		}
		return index, rows
	}
	p.Row, p.Rows = table(p.Terms + 1)
	p.Gow, p.Gows = table(p.Nons)
	return p
}

// ofModel is a model of Of.
func ofModel(b []byte) (api.Packed, api.Errno) {
	if n := min(len(b), 3); string(b[:n]) != "LT1"[:n] {
		return api.Packed{}, api.ErrForm
	} else if n < 3 {
		return api.Packed{}, api.ErrEnd
	}
	var list []int
	for i := 3; i+1 < len(b); i += 2 {
		list = append(list, 256*int(b[i])+int(b[i+1]))
	}
	more, over := missing(list)
	switch odd := len(b)%2 == 0; {
	case more:
		return api.Packed{}, api.ErrEnd
	case over > 0 || odd:
		return api.Packed{}, api.ErrForm
	}
	if p := cut(list); pack.Right(p) {
		return p, api.OK
	}
	return api.Packed{}, api.ErrForm
}

// read demands of any bytes what the model says, and what is read is encoded as the same bytes. It returns the error.
func read(t *testing.T, b []byte) api.Errno {
	t.Helper()
	before := bytes.Clone(b)
	p, e := tabs.Of(b)
	want, wrong := ofModel(b)
	if e != wrong || text(p) != text(want) {
		t.Errorf("%s: it is %s with the error %d, want %s with %d", short(b), short(p), e, short(want), wrong)
	}
	if back := tabs.Bytes(p); e == api.OK && !bytes.Equal(back, before) {
		t.Errorf("%s is encoded as %s", short(b), short(back))
	}
	if !bytes.Equal(b, before) {
		t.Errorf("%s was modified: %s", short(before), short(b))
	}
	stop(t)
	return e
}

// written demands of any packed table what the model says, and what is written is decoded as the same. It returns the bytes.
func written(t *testing.T, p api.Packed) []byte {
	t.Helper()
	before := text(p)
	b := tabs.Bytes(p)
	if want := bytesModel(p); !bytes.Equal(b, want) {
		t.Errorf("%s: it is %s, want %s", short(p), short(b), short(want))
	}
	if len(b) > 0 {
		if back, e := tabs.Of(b); e != api.OK || text(back) != before {
			t.Errorf("%s: decoded it is %s with the error %d", short(p), short(back), e)
		}
	}
	if after := text(p); after != before {
		t.Errorf("%s was modified: %s", short(before), short(after))
	}
	stop(t)
	return b
}

// table demands of the table of a grammar, if it has one, all that the chapter says, and returns its encoding.
func table(t *testing.T, g api.Gram) []byte {
	t.Helper()
	x, e := acts.Of(g)
	if e != api.OK {
		return nil
	}
	p, ok := pack.Pack(x)
	b := written(t, p)
	back, e := tabs.Of(b)
	if !ok || e != api.OK || fmt.Sprint(pack.Unpack(back)) != fmt.Sprint(x) {
		t.Fatalf("%s: the error %d of %s", short(g), e, short(b))
	}
	return b
}

// P18.1, P18.2: the tables of small grammars and of strewn ones.
func TestGrammars(t *testing.T) {
	different := map[string]bool{}
	count := func(g api.Gram) {
		t.Helper()
		if b := table(t, g); b != nil {
			different[string(b)] = true
		}
	}
	for g := range sample.Small("A B", "s t", "s : t | s : s A | s : B | t : | t : t A | t : B t") {
		count(g)
	}
	for g := range sample.Strewn(600, sample.Size{Terms: 6, Nons: 4, Rules: 2, Right: 4}) {
		if gram.Check(g) == api.OK {
			count(g)
		}
	}
	if len(different) < 150 {
		t.Errorf("%d tables", len(different))
	}
}

// P18.1, P18.2: grammars of the greatest size, and just so many states as there may be.
func TestLargeGrammars(t *testing.T) {
	for _, g := range []api.Gram{sample.Around(1), sample.Around(2), sample.Around(api.MaxRight - 1), sample.Sharp(3), sample.Sharp(100), sample.Sharp(api.MaxStates)} {
		b := table(t, g)
		if len(b) == 0 {
			t.Fatalf("%s has no table", short(g))
		}
		for _, n := range []int{0, 1, 2, 3, 4, len(b) / 2, len(b) - 2, len(b) - 1} {
			if e := read(t, b[:n]); e != api.ErrEnd {
				t.Errorf("the first %d of %d bytes have the error %d", n, len(b), e)
			}
		}
		if e := read(t, append(b, 0)); e != api.ErrForm {
			t.Errorf("with one byte more it has the error %d", e)
		}
	}
}

// P18.1, P18.2: packed tables that were changed, valid ones and others, and strewn tables packed.
func TestChanged(t *testing.T) {
	counts := map[bool]int{}
	for p := range sample.Changed(20000) {
		b := written(t, p)
		counts[len(b) > 0]++
		// Also the numbers of a packed table that is not valid are read to the end.
		if list := numbers(p); slices.Min(list) >= 0 && slices.Max(list) <= 65535 {
			read(t, encoded(list...))
		}
	}
	for x := range sample.Loose(5000) {
		p, ok := pack.Pack(x)
		if b := written(t, p); ok && len(b) == 0 && slices.Min(numbers(p)) >= 0 {
			t.Fatalf("%s has no encoding", short(p))
		}
	}
	if counts[true] < 1000 || counts[false] < 10000 {
		t.Errorf("%v", counts)
	}
}

// P18.1, P18.2: each byte of an encoding replaced by each other one, and after that a shorter encoding and longer ones.
func TestEachByte(t *testing.T) {
	counts := map[api.Errno]int{}
	b := tabs.Bytes(sample.Packed())
	for i, old := range b {
		for c := range 256 {
			b[i] = byte(c)
			counts[read(t, b)]++
			counts[read(t, b[:len(b)-1])]++
			counts[read(t, append(slices.Clip(b), 0, 0))]++
		}
		b[i] = old
	}
	if counts[api.OK] < 1000 || counts[api.ErrEnd] < 20000 || counts[api.ErrForm] < 20000 || len(counts) != 3 {
		t.Errorf("%v", counts)
	}
}

// each calls a function with all lists of n numbers of a pool.
func each(n int, pool []int, list []int, do func(list []int)) {
	if n == 0 {
		do(list)
		return
	}
	for _, x := range pool {
		each(n-1, pool, append(list, x), do)
	}
}

// P18.1, P18.2: all encodings of small numbers, with one byte more, too.
func TestAllSmall(t *testing.T) {
	counts := map[api.Errno]int{}
	count := func(list []int) {
		b := encoded(list...)
		counts[read(t, b)]++
		if e := read(t, append(b, 0)); e == api.OK {
			t.Fatalf("%v with one byte more is read", list)
		}
	}
	for n := range 14 {
		each(n, []int{0, 1}, nil, count)
	}
	for n := range 11 {
		each(n, []int{0, 1, 2}, nil, count)
	}
	// The least encoding has 11 numbers: no symbols, one rule, one state, which has nothing to do.
	if counts[api.OK] == 0 || counts[api.ErrEnd] < 10000 || counts[api.ErrForm] < 10000 {
		t.Errorf("%v", counts)
	}
	if e := read(t, encoded(0, 0, 1, 0, 0, 1, 0, 1, 0, 0, 1)); e != api.OK {
		t.Errorf("the least encoding has the error %d", e)
	}
}
