package first_test

import (
	"fmt"
	"slices"
	"strings"
	"testing"

	"conch/api"
	"conch/first"
	"conch/gram"
	"conch/sample"
)

// The model is the chapter once more by other means: that a nonterminal can be empty is found by looking for a tree on whose
// paths no nonterminal occurs twice, and the two kinds of sets by paths between symbols, one of which begins or ends with the
// other.

// answers are the answers for a grammar, by symbol.
type answers struct {
	empty   []bool
	firsts  [][]int
	follows [][]int
}

// erased reports whether there is a tree without terminals below s, and without the nonterminals of path.
func erased(g api.Gram, s int, path ...int) bool {
	if s <= len(g.Terms) || slices.Contains(path, s) {
		return false
	}
	path = append(path[:len(path):len(path)], s)
	return slices.ContainsFunc(g.Rules, func(r api.Rule) bool {
		return r.Left == s && !slices.ContainsFunc(r.Right, func(next int) bool { return !erased(g, next, path...) })
	})
}

// square returns a table of relations between n numbers, in which each number is related to itself.
func square(n int) [][]bool {
	table := make([][]bool, n)
	for i := range table {
		table[i] = make([]bool, n)
		table[i][i] = true
	}
	return table
}

// closed relates what is related by way of others.
func closed(table [][]bool) [][]bool {
	for by := range table {
		for from := range table {
			for to := range table {
				table[from][to] = table[from][to] || table[from][by] && table[by][to]
			}
		}
	}
	return table
}

// model returns the answers that the chapter asks for.
func model(g api.Gram, empty []bool) answers {
	n := gram.Top(g) + 1
	a := answers{empty: empty, firsts: make([][]int, n), follows: make([][]int, n)}
	begins, ends := square(n), square(n)
	for _, r := range g.Rules {
		for i, s := range r.Right {
			begins[r.Left][s] = begins[r.Left][s] || a.passes(r.Right[:i])
			ends[s][r.Left] = ends[s][r.Left] || a.passes(r.Right[i+1:])
		}
	}
	begins, ends = closed(begins), closed(ends)
	for s := range n {
		for term := range len(g.Terms) + 1 {
			if begins[s][term] {
				a.firsts[s] = append(a.firsts[s], term)
			}
			if gram.Non(g, s) && follows(g, a, begins, ends[s], term) {
				a.follows[s] = append(a.follows[s], term)
			}
		}
	}
	return a
}

// passes reports whether all of the symbols can be empty.
func (a answers) passes(symbols []int) bool {
	return !slices.ContainsFunc(symbols, func(s int) bool { return s < 0 || s >= len(a.empty) || !a.empty[s] })
}

// follows reports whether the terminal comes right after one of the symbols that end with a certain one.
func follows(g api.Gram, a answers, begins [][]bool, last []bool, term int) bool {
	if term == 0 && last[g.Start] {
		return true
	}
	for _, r := range g.Rules {
		for i, s := range r.Right {
			for k := i + 1; k < len(r.Right) && last[s]; k++ {
				if begins[r.Right[k]][term] && a.passes(r.Right[i+1:k]) {
					return true
				}
			}
		}
	}
	return false
}

// line returns what Line must return.
func (a answers) line(l []int) ([]int, bool) {
	var all []int
	for i, s := range l {
		if a.passes(l[:i]) && s >= 0 && s < len(a.firsts) {
			all = append(all, a.firsts[s]...)
		}
	}
	slices.Sort(all)
	return slices.Compact(all), a.passes(l)
}

// short renders a value, but not more than the beginning of a long one.
func short(value any) string {
	text := fmt.Sprint(value)
	return text[:min(len(text), 300)]
}

// stop ends a test that has failed: other grammars would tell the same again.
func stop(t *testing.T) {
	t.Helper()
	if t.Failed() {
		t.FailNow()
	}
}

// holds demands the answers, asked twice.
func holds(t *testing.T, g api.Gram, s *first.Sets, want answers) {
	t.Helper()
	if s == nil {
		t.Fatalf("%s has no sets", short(g))
	}
	for range 2 {
		for x := range want.empty {
			if got := s.Empty(x); got != want.empty[x] {
				t.Errorf("%s: Empty(%d) is %t", short(g), x, got)
			}
			if got := s.First(x); !slices.Equal(got, want.firsts[x]) {
				t.Errorf("%s: First(%d) is %v, want %v", short(g), x, got, want.firsts[x])
			}
			if got := s.Follow(x); !slices.Equal(got, want.follows[x]) {
				t.Errorf("%s: Follow(%d) is %v, want %v", short(g), x, got, want.follows[x])
			}
		}
	}
	stop(t)
}

// lines demands of sequences that Line returns what the model does.
func lines(t *testing.T, g api.Gram, s *first.Sets, a answers, sequences ...[]int) {
	t.Helper()
	for _, l := range sequences {
		before := slices.Clone(l)
		want, all := a.line(l)
		if got, is := s.Line(l); is != all || !slices.Equal(got, want) {
			t.Errorf("%s: Line(%v) is %v %t, want %v %t", short(g), l, got, is, want, all)
		}
		if !slices.Equal(l, before) {
			t.Errorf("Line(%v) modified its argument: %v", before, l)
		}
	}
	stop(t)
}

// contained demands that each right side is contained in its left side, and that each terminal of a left side comes from one
// of its right sides.
func contained(t *testing.T, g api.Gram, s *first.Sets) {
	t.Helper()
	from := make([][]int, gram.Top(g)+1)
	for i, r := range g.Rules {
		right, all := s.Line(r.Right)
		left := s.First(r.Left)
		for _, x := range right {
			if !slices.Contains(left, x) {
				t.Errorf("%s: rule %d: %d is in the set of the right side, but not in %v", short(g), i, x, left)
			}
		}
		if all && !s.Empty(r.Left) {
			t.Errorf("%s: rule %d: the right side can be empty, the left side can't", short(g), i)
		}
		from[r.Left] = append(from[r.Left], right...)
	}
	for x, all := range from {
		slices.Sort(all)
		if gram.Non(g, x) && !slices.Equal(slices.Compact(all), s.First(x)) {
			t.Errorf("%s: First(%d) is %v, its right sides have %v", short(g), x, s.First(x), short(all))
		}
	}
	stop(t)
}

// agree demands of a small grammar the answers of the model, in both orders of its rules, and asks for sequences of all
// symbols and of two numbers that are none.
func agree(t *testing.T, g api.Gram) answers {
	t.Helper()
	empty := make([]bool, gram.Top(g)+1)
	for s := range empty {
		empty[s] = erased(g, s)
	}
	want := model(g, empty)
	backwards := g
	backwards.Rules = slices.Clone(g.Rules)
	slices.Reverse(backwards.Rules)
	holds(t, backwards, first.Of(backwards), want)
	s := first.Of(g)
	holds(t, g, s, want)
	contained(t, g, s)
	for a := -1; a <= gram.Top(g)+1; a++ {
		lines(t, g, s, want, []int{a}, []int{a, a})
		for b := -1; b <= gram.Top(g)+1; b++ {
			lines(t, g, s, want, []int{a, b}, []int{a, b, a}, []int{b, b, a})
		}
	}
	for _, r := range g.Rules {
		lines(t, g, s, want, r.Right)
	}
	holds(t, g, s, want)
	return want
}

// forms returns all sequences of at most most symbols that the rules make of s, each as a text with a byte for each symbol.
func forms(g api.Gram, s, most int) map[string]bool {
	seen := map[string]bool{string(rune(s)): true}
	work := []string{string(rune(s))}
	for len(work) > 0 {
		form := work[0]
		work = work[1:]
		for at, x := range []byte(form) {
			for _, r := range g.Rules {
				if r.Left != int(x) {
					continue
				}
				next := form[:at]
				for _, y := range r.Right {
					next += string(rune(y))
				}
				next += form[at+1:]
				if len(next) <= most && !seen[next] {
					seen[next] = true
					work = append(work, next)
				}
			}
		}
	}
	return seen
}

// derived returns the answers as they are seen in such sequences: with what they begin, what stands side by side in them, and
// with what those of Start end.
func derived(g api.Gram, most int) answers {
	n := gram.Top(g) + 1
	a := answers{empty: make([]bool, n), firsts: make([][]int, n), follows: make([][]int, n)}
	add := func(lists [][]int, x, term int) {
		if term <= len(g.Terms) && !slices.Contains(lists[x], term) {
			lists[x] = append(lists[x], term)
			slices.Sort(lists[x])
		}
	}
	for s := range n {
		for form := range forms(g, s, most) {
			if form == "" {
				a.empty[s] = true
				continue
			}
			add(a.firsts, s, int(form[0]))
			for i := range len(form) - 1 {
				add(a.follows, int(form[i]), int(form[i+1]))
			}
			if s == g.Start {
				add(a.follows, int(form[len(form)-1]), 0)
			}
		}
	}
	for s := range len(g.Terms) + 1 {
		a.follows[s] = nil
	}
	return a
}

// P11.1, P11.2: all subsets of some rules. For the first ones the sets are also those that are seen in what the rules make of
// the symbols.
func TestSmallGrammars(t *testing.T) {
	kinds := map[string]int{}
	for _, x := range []struct {
		most               int
		terms, nons, rules string
	}{
		{8, "", "s", "s : | s : s | s : s s"},
		{5, "A", "s t", "s : | s : A | s : t | s : t s | t : | t : A | t : s | t : A t | t : t t"},
		{4, "A B", "s t u", "s : t u | s : s A | s : B | t : | t : u | t : t A | u : s | u : B | u :"},
		{0, "A B C", "s t u", "s : A | s : t u | s : B s | s : u u | t : | t : t | t : u t C | t : C s | u : | u : u u | u : A t B | u : s"},
	} {
		for g := range sample.Small(x.terms, x.nons, x.rules) {
			kinds[describe(g, agree(t, g))]++
			if x.most > 0 {
				holds(t, g, first.Of(g), derived(g, x.most))
			}
		}
	}
	if len(kinds) < 300 {
		t.Errorf("the grammars are too much alike: %d kinds", len(kinds))
	}
}

// P11.1, P11.2: strewn grammars, small ones with many empty right sides and others with long ones.
func TestStrewnGrammars(t *testing.T) {
	kinds := map[string]int{}
	for _, most := range []sample.Size{{Terms: 4, Nons: 4, Rules: 3, Right: 3}, {Terms: 7, Nons: 7, Rules: 3, Right: 4}, {Terms: 5, Nons: 4, Rules: 3, Right: api.MaxRight}} {
		for g := range sample.Strewn(1500, most) {
			if gram.Check(g) == api.OK {
				kinds[describe(g, agree(t, g))]++
			}
		}
	}
	if len(kinds) < 1500 {
		t.Errorf("the grammars are too much alike: %d kinds", len(kinds))
	}
}

// describe renders the answers, to count how many different ones there are.
func describe(g api.Gram, a answers) string {
	var b strings.Builder
	for s := len(g.Terms) + 1; s <= gram.Top(g); s++ {
		b.WriteString(line(g, a.empty[s], a.firsts[s], a.follows[s]) + "\n")
	}
	return b.String()
}
