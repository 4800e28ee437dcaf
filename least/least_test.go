package least_test

import (
	"math"
	"slices"
	"strconv"
	"strings"
	"testing"

	"conch/api"
	"conch/gram"
	"conch/least"
	"conch/sample"
)

// Short names: almost every test makes grammars.
var grammar, sized, long = sample.Grammar, sample.Sized, sample.Doubling

// numbers returns the symbols with these names.
func numbers(g api.Gram, names string) []int {
	var list []int
	for _, name := range strings.Fields(names) {
		list = append(list, gram.Find(g, name))
	}
	return list
}

// none is what a nonterminal without a word is expected to have.
const none = "none"

// expect demands words of the nonterminals of g, as names parted by blanks, also with the rules in the other order, and
// that the words agree with the model.
func expect(t *testing.T, g api.Gram, words ...string) {
	t.Helper()
	for range 2 {
		w := least.Of(g)
		for i, want := range words {
			s := len(g.Terms) + 1 + i
			if want == none {
				holds(t, g, w, s, nil, false)
			} else {
				holds(t, g, w, s, numbers(g, want), true)
			}
		}
		agree(t, g)
		slices.Reverse(g.Rules)
	}
}

// P10.1: the minimal words of small grammars.
func TestWords(t *testing.T) {
	for _, x := range []struct {
		what  string
		g     api.Gram
		words []string
	}{
		{"the only rule", grammar("A B", "s", "s", "s : B A"), []string{"B A"}},
		{"the empty word", grammar("A", "s", "s", "s : A", "s :"), []string{""}},
		{"the shorter one is greater in its first number", grammar("A B", "s", "s", "s : A A", "s : B"), []string{"B"}},
		{"the shorter one is greater in each number", grammar("A B", "s", "s", "s : A A A", "s : B B"), []string{"B B"}},
		{"the shorter one is the beginning of the longer one", grammar("A B", "s", "s", "s : A B", "s : A"), []string{"A"}},
		{"the longer one comes from fewer symbols", grammar("A B", "s t", "s", "s : t", "s : B B B", "t : A A A A"), []string{"B B B", "A A A A"}},
		{"they differ in the first number", grammar("A B C", "s", "s", "s : C A A", "s : B C C"), []string{"B C C"}},
		{"they differ in the second number", grammar("A B C", "s", "s", "s : B C A", "s : B B C"), []string{"B B C"}},
		{"they differ in the last number", grammar("A B C", "s", "s", "s : B B C", "s : B B A", "s : B B B"), []string{"B B A"}},
		{"the numbers decide, not the names", grammar("Z '+' A", "s t", "s", "s : A", "s : Z", "t : A", "t : '+'"), []string{"Z", "'+'"}},
		{"they differ where two symbols meet", grammar("A B", "s t u", "s", "s : t B", "s : A u", "t : A B", "u : A B"), []string{"A A B", "A B", "A B"}},
		{"the first word of a part makes the whole one greater", grammar("A B", "s t", "s", "s : B t", "t : A A", "t : B"), []string{"B B", "B"}},
		{"two rules with the same word", grammar("A B", "s t", "s", "s : t B", "s : A t", "t : A", "t : B", "s : A A B"), []string{"A A", "A"}},
		{"the left side is its own right side", grammar("A", "s", "s", "s : s", "s : A"), []string{"A"}},
		{"the left side is first on its right side", grammar("A B", "s", "s", "s : s A", "s : B"), []string{"B"}},
		{"the left side is last on its right side", grammar("A B", "s", "s", "s : A s", "s : B"), []string{"B"}},
		{"the left side is in the middle of its right side", grammar("A B C", "s", "s", "s : A s B", "s : C C"), []string{"C C"}},
		{"the left side twice on its right side", grammar("A", "s t", "s", "s : s s", "s : A", "t : t t", "t :"), []string{"A", ""}},
		{"the left side amid empty words", grammar("A B", "s t", "s", "s : t s t", "s : B A", "s : A B", "t :", "t : t t"), []string{"A B", ""}},
		{"two that lead to each other", grammar("A B", "s t", "s", "s : t", "s : B", "t : s", "t : A"), []string{"A", "A"}},
		{"two that lead to each other by longer words", grammar("A B C", "s t", "s", "s : A t", "s : C C", "t : A s", "t : B B"), []string{"C C", "B B"}},
		{"three that lead around", grammar("A B C", "s t u", "s", "s : t", "t : u", "u : s", "s : C", "t : B", "u : A"), []string{"A", "A", "A"}},
		{"three that lead around with an empty one", grammar("A B C", "s t u e", "s", "s : e t", "t : u e", "u : e s e", "s : C", "t : B B", "e : e", "e :"), []string{"C", "C", "C", ""}},
		{"no word by itself", grammar("A", "s t", "s", "s : t", "s : A", "t : t"), []string{"A", none}},
		{"no word by a symbol behind others", grammar("A", "s t", "s", "s : A t", "t : A A A s"), []string{none, none}},
		{"no word by a symbol ahead of others", grammar("A", "s t", "s", "s : t A", "s : A A", "t : t"), []string{"A A", none}},
		{"the smaller word has a part without a word", grammar("A B", "s t", "s", "s : A t", "s : B B B", "t : t A"), []string{"B B B", none}},
		{"no word for Start, but for others", grammar("A", "s t", "s", "s : s t", "t : A"), []string{none, "A"}},
		{"unreachable ones have words", grammar("A B", "s t u", "s", "s : A", "t : B s", "u : t t"), []string{"A", "B A", "B A B A"}},
		{"Start is not the first one", grammar("A B", "s t", "t", "s : B", "t : s A"), []string{"B", "B A"}},
		{"no terminals", grammar("", "s t u", "s", "s : t t", "t :", "u : u"), []string{"", "", none}},
		{"eight symbols", grammar("A B", "s t", "s", "s : t t t t t t t t", "t : B A"), []string{strings.Repeat("B A ", 8), "B A"}},
	} {
		t.Run(x.what, func(t *testing.T) { expect(t, x.g, x.words...) })
	}
}

// P10.1: the words of terminals and of the end of input, and numbers that are no symbol.
func TestNumbers(t *testing.T) {
	for _, g := range []api.Gram{grammar("", "s", "s", "s :"), grammar("A B", "s t", "s", "s : B", "t : t"), full()} {
		w := least.Of(g)
		holds(t, g, w, 0, nil, true)
		for s := 1; s <= len(g.Terms); s++ {
			holds(t, g, w, s, []int{s}, true)
		}
		top := gram.Top(g)
		for _, s := range []int{-1, -2, -top, top + 1, top + 2, 2 * top, api.MaxWord, 1 << 31, 1 << 32, 1<<32 + 1, math.MinInt, math.MinInt + 1, math.MaxInt} {
			if s >= 0 && s <= top {
				continue
			}
			holds(t, g, w, s, nil, false)
			for _, l := range [][]int{{0, s}, {s, 0}, {top, s}, {s, s}, {1, s, 1}} {
				if got, ok := w.Line(l); ok || len(got) != 0 {
					t.Errorf("Line(%v) is %v %t", l, got, ok)
				}
			}
		}
	}
}

// full returns a grammar of the greatest size in every respect. The word of each nonterminal is that of its number.
func full() api.Gram {
	g := sized(api.MaxTerms, api.MaxNons)
	for i := range api.MaxRules {
		s := 1 + i%api.MaxNons
		r := api.Rule{Left: api.MaxTerms + s, Right: []int{s}}
		switch i / api.MaxNons {
		case 1:
			r.Right = slices.Repeat([]int{r.Left}, api.MaxRight)
		case 2:
			r.Right = []int{api.MaxTerms}
		}
		g.Rules = append(g.Rules, r)
	}
	g.Rules[2*api.MaxNons-1].Right[0] = 1
	return g
}

// P10.1: a grammar of the greatest size, with its rules in both orders.
func TestMost(t *testing.T) {
	g := full()
	for range 2 {
		w := least.Of(g)
		for s := 1; s <= api.MaxNons; s++ {
			holds(t, g, w, api.MaxTerms+s, []int{s}, true)
		}
		settled(t, g, w)
		slices.Reverse(g.Rules)
	}
}

// powers returns a grammar in which each nonterminal is the next one that many times, and the last one is the first terminal.
func powers(nons, times int) api.Gram {
	g := sized(2, nons)
	for i := range nons - 1 {
		g.Rules = append(g.Rules, api.Rule{Left: 3 + i, Right: slices.Repeat([]int{4 + i}, times)})
	}
	g.Rules = append(g.Rules, api.Rule{Left: 2 + nons, Right: []int{1}})
	return g
}

// P10.1: words of up to MaxWord terminals, and longer ones, whose lengths leave the range of every kind of integer.
func TestPowers(t *testing.T) {
	for times := 1; times <= api.MaxRight; times++ {
		for _, nons := range []int{2, 3, 5, 6, 12, 13, 14, 15, 16, 17, 22, 23, 32, 33, 34, 63, 64, 65, 66, api.MaxNons} {
			g := powers(nons, times)
			for range 2 {
				w := least.Of(g)
				want := 1
				for s := gram.Top(g); s > 2; s-- {
					if want <= api.MaxWord {
						holds(t, g, w, s, slices.Repeat([]int{1}, want), true)
					} else {
						tooLong(t, w, s)
					}
					want = min(want*times, api.MaxWord+1)
				}
				settled(t, g, w)
				slices.Reverse(g.Rules)
			}
		}
	}
}

// tooLong demands that the word of s is longer than MaxWord.
func tooLong(t *testing.T, w *least.Words, s int) {
	t.Helper()
	if n := w.Length(s); n != api.MaxWord+1 {
		t.Errorf("Length(%d) is %d, want %d", s, n, api.MaxWord+1)
	}
	if got, ok := w.Word(s); ok || len(got) != 0 {
		t.Errorf("Word(%d) has %d terminals, %t", s, len(got), ok)
	}
	for _, l := range [][]int{{s}, {s, 0}, {0, s}, {s, s}, {s, 1}, {1, s}, {s, -1}, {-1, s}} {
		if got, ok := w.Line(l); ok || len(got) != 0 {
			t.Errorf("Line(%v) has %d terminals, %t", l, len(got), ok)
		}
	}
}

// P10.1: words of just MaxWord terminals and of more, and how those that are too long count against others.
func TestLong(t *testing.T) {
	const most = api.MaxWord
	all := "b2048 b1024 b512 b256 b128 b64 b32"
	g := long("less most more twice dead shrunk grown even odd by self tail",
		"tail : b16 b8 b4 b2 b1",
		"less : "+all+" tail",
		"most : less A", "most : less C",
		"more : most A", "more : less A A",
		"twice : b4096 b4096", "twice : more more",
		"dead : more dead", "dead : dead more more", "dead : most most dead",
		"shrunk : more", "shrunk : most", "shrunk : C C",
		"grown : more", "grown : more more", "grown : dead",
		"even : b4096", "even : C less", "even : less C", "even : more",
		"odd : A b4096", "odd : less", "odd : twice",
		"by : more by", "by : by twice", "by : A", "by : more",
		"self : self self", "self : more self", "self : twice self self", "self : b4096 C")
	for range 2 {
		w := least.Of(g)
		b := func(n int) []int { return slices.Repeat([]int{2}, n) }
		for n := 1; n <= most; n *= 2 {
			holds(t, g, w, gram.Find(g, "b"+strconv.Itoa(n)), b(n), true)
		}
		for name, word := range map[string][]int{
			"less": b(most - 1), "most": append(b(most-1), 1), "shrunk": {3, 3}, "even": b(most), "odd": b(most - 1), "by": {1}, "tail": b(31),
		} {
			holds(t, g, w, gram.Find(g, name), word, true)
		}
		for _, name := range []string{"more", "twice", "grown", "self"} {
			tooLong(t, w, gram.Find(g, name))
		}
		holds(t, g, w, gram.Find(g, "dead"), nil, false)
		settled(t, g, w)
		slices.Reverse(g.Rules)
	}
}

// P10.1: words of MaxWord terminals that differ in one number only, at each of some places.
func TestLongOrder(t *testing.T) {
	halves := []int{2048, 1024, 512, 256, 128, 64, 32, 16, 8, 4, 2, 1}
	for at := range 1 << len(halves) {
		if at%97 != 0 && at != 1<<len(halves)-1 {
			continue
		}
		// The parts of the front have at terminals together; then comes the one that differs, and then what is left of MaxWord.
		front, back := "f :", "k :"
		for _, n := range halves {
			if at&n != 0 {
				front += " b" + strconv.Itoa(n)
			} else {
				back += " b" + strconv.Itoa(n)
			}
		}
		g := long("s f k f2 k2", split(front), split(back), "f2 :"+rest(front), "k2 :"+rest(back), "s : f f2 C k k2", "s : f f2 B k k2", "s : f f2 A k k2")
		w := least.Of(g)
		want := slices.Repeat([]int{2}, api.MaxWord)
		want[at] = 1
		holds(t, g, w, gram.Find(g, "s"), want, true)
		g.Rules = slices.DeleteFunc(g.Rules, func(r api.Rule) bool { return slices.Contains(r.Right, 1) })
		want[at] = 2
		holds(t, g, least.Of(g), gram.Find(g, "s"), want, true)
	}
}

// split returns a rule with its first symbols, as many as it can have.
func split(rule string) string {
	words := strings.Fields(rule)
	return strings.Join(words[:min(len(words), 2+api.MaxRight)], " ")
}

// rest returns the symbols that split leaves.
func rest(rule string) string {
	words := strings.Fields(rule)
	return " " + strings.Join(words[min(len(words), 2+api.MaxRight):], " ")
}

// P10.1: lines of symbols.
func TestLine(t *testing.T) {
	g := long("e s dead more", "e :", "e : e A", "s : e C B", "s : B C", "dead : A dead", "more : b4096 A")
	w := least.Of(g)
	const most = api.MaxWord
	find := func(name string) int { return gram.Find(g, name) }
	e, s, dead, more, half := find("e"), find("s"), find("dead"), find("more"), find("b2048")
	b := slices.Repeat([]int{2}, most)
	for _, x := range []struct {
		what string
		l    []int
		want []int
		ok   bool
	}{
		{"nil", nil, nil, true}, {"empty", []int{}, nil, true},
		{"the end of input", []int{0}, nil, true}, {"terminals", []int{3, 1, 2, 3}, []int{3, 1, 2, 3}, true},
		{"the end of input amid others", []int{0, 1, 0, 0, 2, 0}, []int{1, 2}, true},
		{"terminals and nonterminals", []int{s, 1, e, s}, []int{2, 3, 1, 2, 3}, true},
		{"the same one again", []int{s, s, s}, []int{2, 3, 2, 3, 2, 3}, true},
		{"only empty words", []int{e, 0, e, e}, nil, true},
		{"more empty words than MaxWord", slices.Repeat([]int{0, e}, most), nil, true},
		{"more symbols than MaxWord, but not too long", slices.Concat(slices.Repeat([]int{e}, most), b), b, true},
		{"MaxWord terminals", b, b, true},
		{"MaxWord terminals and one more", append(slices.Clone(b), 1), nil, false},
		{"one terminal and MaxWord ones", append([]int{1}, b...), nil, false},
		{"MaxWord terminals of one symbol", []int{find("b4096")}, b, true},
		{"MaxWord terminals of two symbols", []int{half, half}, b, true},
		{"MaxWord terminals of two symbols amid empty words", []int{e, half, 0, half, e}, b, true},
		{"MaxWord terminals of symbols of two", slices.Repeat([]int{find("b2")}, most/2), b, true},
		{"short parts that are too long together", append(slices.Repeat([]int{s}, most/2), 1), nil, false},
		{"two halves and one more", []int{half, half, 1}, nil, false},
		{"one more and two halves", []int{3, half, half}, nil, false},
		{"two times MaxWord", []int{find("b4096"), find("b4096")}, nil, false},
		{"far too long", slices.Repeat([]int{find("b4096")}, 1<<20), nil, false},
		{"one that is too long", []int{more}, nil, false}, {"one that is too long amid others", []int{1, more, 1}, nil, false},
		{"one without a word", []int{dead}, nil, false}, {"one without a word, first", []int{dead, 1, 2}, nil, false},
		{"one without a word, last", []int{1, 2, dead}, nil, false}, {"one without a word behind one that is too long", []int{more, dead}, nil, false},
		{"no symbol, first", []int{-1, 1}, nil, false}, {"no symbol, last", []int{1, gram.Top(g) + 1}, nil, false},
		{"no symbol behind one that is too long", []int{more, -1}, nil, false}, {"no symbol behind too many", append(slices.Clone(b), 1, math.MinInt), nil, false},
	} {
		before := slices.Clone(x.l)
		for range 2 {
			if got, ok := w.Line(x.l); ok != x.ok || !slices.Equal(got, x.want) {
				t.Errorf("%s: Line is %.50v %t, want %.50v %t", x.what, got, ok, x.want, x.ok)
			}
		}
		if !slices.Equal(x.l, before) {
			t.Errorf("%s: the list was modified", x.what)
		}
	}
}

// P10.1: grammars that are not valid, by each condition of chapter 6.
func TestInvalid(t *testing.T) {
	for _, x := range sample.Invalid() {
		if least.Of(x.G) != nil {
			t.Errorf("%.200v has words", x.G)
		}
	}
	if least.Of(sample.Valid()) == nil {
		t.Error("the valid grammar has no words")
	}
}

// P10.1: a nil receiver. Words that no call made must not panic either.
func TestNil(t *testing.T) {
	var w *least.Words
	for _, s := range []int{0, 1, 2, -1, math.MinInt, math.MaxInt} {
		holds(t, api.Gram{}, w, s, nil, false)
		holds(t, api.Gram{}, &least.Words{}, s, nil, false)
	}
	for _, l := range [][]int{nil, {}, {0}, {1}, {0, 0}, {-1}, slices.Repeat([]int{1}, api.MaxWord+1)} {
		if got, ok := w.Line(l); ok || len(got) != 0 {
			t.Errorf("Line(%.20v) is %v %t", l, got, ok)
		}
		new(least.Words).Line(l)
	}
}

// P10.1: nil and empty lists are alike.
func TestNilAndEmpty(t *testing.T) {
	for _, terms := range [][]string{nil, {}} {
		for _, right := range [][]int{nil, {}} {
			expect(t, api.Gram{Terms: terms, Nons: []string{"s", "t"}, Rules: []api.Rule{{Left: 1, Right: right}, {Left: 2, Right: []int{1, 2}}}, Start: 1}, "", none)
		}
		if least.Of(api.Gram{Terms: terms, Nons: []string{}, Rules: []api.Rule{}}) != nil {
			t.Error("a grammar without nonterminals has words")
		}
	}
}

// The grammar is left as it is, and nothing of it is kept: what is done to it afterwards does not change the answers. Nor
// does what is done to an answer, or what was asked before.
func TestAnswersAreNew(t *testing.T) {
	g := grammar("A B", "s t u", "s", "s : t B", "t : A A", "t : B A", "u : s", "u : A B A B")
	same := grammar("A B", "s t u", "s", "s : t B", "t : A A", "t : B A", "u : s", "u : A B A B")
	w, other := least.Of(g), least.Of(grammar("A B", "s t u", "s", "s : B", "t : s", "u : t"))
	if !gram.Same(g, same) {
		t.Errorf("the argument became %v", g)
	}
	for i := range g.Rules {
		clear(g.Rules[i].Right)
	}
	clear(g.Rules)
	clear(g.Terms)
	for range 2 {
		for s, want := range [][]int{nil, {1}, {2}, {1, 1, 2}, {1, 1}, {1, 1, 2}} {
			holds(t, same, w, s, want, true)
			holds(t, same, other, s, [][]int{nil, {1}, {2}, {2}, {2}, {2}}[s], true)
			l := []int{s, s}
			word, _ := w.Word(s)
			line, _ := w.Line(l)
			if !slices.Equal(line, slices.Concat(want, want)) {
				t.Errorf("Line(%v) is %v", l, line)
			}
			for _, list := range [][]int{l, word, line} {
				clear(append(list, -1))
				clear(list)
			}
		}
	}
}

// The example of the chapter.
func TestExample(t *testing.T) {
	expect(t, grammar("A B", "s", "s", "s : A s", "s : B"), "B")
}
