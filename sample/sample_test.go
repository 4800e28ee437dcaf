package sample_test

import (
	"fmt"
	"iter"
	"slices"
	"strconv"
	"strings"
	"testing"

	"conch/acts"
	"conch/api"
	"conch/gram"
	"conch/pack"
	"conch/sample"
)

func TestGrammar(t *testing.T) {
	g := sample.Grammar("A '+'", "s t", "t", "t : s '+'", "s :", "s : A")
	want := api.Gram{Terms: []string{"A", "'+'"}, Nons: []string{"s", "t"}, Start: 4, Rules: []api.Rule{{Left: 4, Right: []int{3, 2}}, {Left: 3}, {Left: 3, Right: []int{1}}}}
	if !gram.Same(g, want) || gram.Check(g) != api.OK {
		t.Errorf("the grammar is %v", g)
	}
	if e := gram.Check(sample.Grammar("A", "s", "s", "s : A B")); e != api.ErrArg {
		t.Errorf("an unknown name: %d", e)
	}
}

func TestSized(t *testing.T) {
	g := sample.Sized(3, 2)
	if gram.Top(g) != 5 || gram.Name(g, 3) != "T2" || gram.Name(g, g.Start) != "n0" || len(g.Rules) != 0 {
		t.Errorf("the grammar is %v", g)
	}
}

func TestItem(t *testing.T) {
	g := sample.Grammar("A", "s t", "t", "s : A t", "t :")
	for x, want := range map[api.Item]string{{}: "s : . A t", {Dot: 1}: "s : A . t", {Dot: 2}: "s : A t .", {Rule: 1}: "t : .", {Rule: 2, Dot: 1}: "$ : t .",
		{Dot: 3}: "no item", {Dot: -1}: "no item", {Rule: 3}: "no item", {Rule: -1}: "no item"} {
		if got := sample.Item(g, x); got != want {
			t.Errorf("%v is %q, want %q", x, got, want)
		}
	}
}

// Grammars without a rule for each nonterminal are left out.
func TestSmall(t *testing.T) {
	var list []string
	for g := range sample.Small("A", "s t", "s : | s : A | t : s") {
		list = append(list, gram.Name(g, g.Start)+strconv.Itoa(len(g.Rules)))
	}
	if want := []string{"s2", "t2", "s2", "t2", "s3", "t3"}; !slices.Equal(list, want) {
		t.Errorf("the grammars are %q, want %q", list, want)
	}
	for range sample.Small("A", "s t", "s : | s : A | t : s") {
		break
	}
}

func TestSubsets(t *testing.T) {
	var list []string
	for rules := range sample.Subsets("s : | s : A | t : s") {
		list = append(list, strings.Join(rules, ","))
	}
	want := []string{"", "s :", "s : A", "s :,s : A", "t : s", "s :,t : s", "s : A,t : s", "s :,s : A,t : s"}
	if !slices.Equal(list, want) {
		t.Errorf("the subsets are %q, want %q", list, want)
	}
}

// Strewn grammars stay within their size, reach it, and are the same ones each time.
func TestStrewn(t *testing.T) {
	var reached sample.Size
	var again []api.Gram
	most := sample.Size{Terms: 3, Nons: 2, Rules: 3, Right: 4}
	for g := range sample.Strewn(500, most) {
		again = append(again, g)
		reached.Terms = max(reached.Terms, len(g.Terms))
		reached.Nons = max(reached.Nons, len(g.Nons))
		for i := range g.Nons {
			reached.Rules = max(reached.Rules, len(gram.Of(g, len(g.Terms)+1+i)))
		}
		for _, r := range g.Rules {
			reached.Right = max(reached.Right, len(r.Right))
		}
		if e := gram.Check(g); e != api.OK && e != api.ErrTwice {
			t.Errorf("%v is not valid: %d", g, e)
		}
	}
	if reached != most || len(again) != 500 {
		t.Errorf("%d grammars up to %v", len(again), reached)
	}
	for g := range sample.Strewn(500, most) {
		if !gram.Same(g, again[0]) {
			t.Errorf("%v was %v", g, again[0])
		}
		again = again[1:]
	}
}

// Each of the invalid grammars has its error, and each error of chapter 6 has some of them.
func TestInvalid(t *testing.T) {
	counts := map[api.Errno]int{}
	for _, x := range sample.Invalid() {
		counts[x.E]++
		if e := gram.Check(x.G); e != x.E {
			t.Errorf("%.200v: %d, want %d", x.G, e, x.E)
		}
	}
	for _, e := range []api.Errno{api.ErrMany, api.ErrForm, api.ErrTwice, api.ErrArg, api.ErrNone} {
		if counts[e] < 4 {
			t.Errorf("%d grammars with the error %d", counts[e], e)
		}
	}
	if counts[api.OK] != 0 || gram.Check(sample.Valid()) != api.OK {
		t.Error("the valid grammar")
	}
}

// The large grammars are valid and as large as they can be; what the automata of some of them are, the tests of layer 13 tell.
func TestLarge(t *testing.T) {
	for _, g := range []api.Gram{sample.Around(1), sample.Around(2), sample.Around(api.MaxRight - 1), sample.Wide()} {
		if e := gram.Check(g); e != api.OK || len(g.Terms) != api.MaxTerms || len(g.Nons) != api.MaxNons || len(g.Rules) != api.MaxRules {
			t.Errorf("%.200v: %d", g, e)
		}
	}
	if g := sample.Around(2); len(g.Rules[0].Right) != 3 || gram.Non(g, g.Rules[0].Right[1]) {
		t.Errorf("a rule of Around(2) is %v", g.Rules[0])
	}
	for n := 1; n <= 16; n++ {
		if g := sample.Remembering(n); gram.Check(g) != api.OK || len(g.Terms) != n {
			t.Errorf("Remembering(%d) is %.200v", n, g)
		}
	}
	for n := 3; n <= api.MaxStates+200; n += 10 {
		g, beginnings := sample.Sharp(n), map[string]int{}
		for _, r := range g.Rules {
			for i := range r.Right {
				beginnings[fmt.Sprint(r.Right[:i+1])] = i
			}
		}
		if gram.Check(g) != api.OK || len(beginnings) != n-2 {
			t.Errorf("Sharp(%d) has %d beginnings", n, len(beginnings))
		}
	}
}

// Doubling has one nonterminal for each power of two, each but the first one made of two of the one before, and what it is given.
func TestDoubling(t *testing.T) {
	g := sample.Doubling("s t", "s : b4096 A", "t : b1 C")
	if gram.Check(g) != api.OK || len(g.Terms) != 3 || len(g.Nons) != 15 || len(g.Rules) != 15 || gram.Name(g, g.Start) != "b1" {
		t.Fatalf("the grammar is %v", g)
	}
	for n, half := 2, g.Start; n <= api.MaxWord; n, half = 2*n, half+1 {
		s := gram.Find(g, "b"+strconv.Itoa(n))
		rules := gram.Of(g, s)
		if s != half+1 || len(rules) != 1 || !slices.Equal(g.Rules[rules[0]].Right, []int{half, half}) {
			t.Errorf("b%d is %d, with the rules %v", n, s, rules)
		}
	}
}

// The table is valid, and has each kind of action; loose tables are valid or not, and the same ones each time.
func TestTables(t *testing.T) {
	kinds := map[int]bool{}
	for _, row := range sample.Table().Acts {
		for _, a := range row {
			kinds[a.K] = true
		}
	}
	if !acts.Right(sample.Table()) || len(kinds) != 4 {
		t.Errorf("the table is %v", sample.Table())
	}
	if counts := twice(t, sample.Loose(1000), acts.Right); counts[true] < 100 || counts[false] < 100 {
		t.Errorf("%v", counts)
	}
}

// twice demands of a sequence that it yields the same each time, and returns how many of what it yields are right and how many are not.
func twice[E any](t *testing.T, list iter.Seq[E], right func(E) bool) map[bool]int {
	t.Helper()
	var again []string
	counts := map[bool]int{}
	for x := range list {
		again = append(again, fmt.Sprint(x))
		counts[right(x)]++
	}
	for x := range list {
		if fmt.Sprint(x) != again[0] {
			t.Fatalf("%v was %s", x, again[0])
		}
		again = again[1:]
	}
	return counts
}

// Changed yields packed tables that are valid or not, the same ones each time, and leaves that of Packed as it is.
func TestPacked(t *testing.T) {
	if !pack.Right(sample.Packed()) {
		t.Errorf("the packed table is %v", sample.Packed())
	}
	before := fmt.Sprint(sample.Packed())
	counts := twice(t, sample.Changed(1000), pack.Right)
	if counts[true] < 50 || counts[false] < 500 || fmt.Sprint(sample.Packed()) != before {
		t.Errorf("%v", counts)
	}
}
