package least_test

import (
	"slices"
	"strings"
	"testing"

	"conch/api"
	"conch/gram"
	"conch/least"
	"conch/sample"
)

// The model is the chapter once more by other means: the minimal word is the smallest one among those of all trees on whose
// paths no nonterminal occurs twice. (A tree with such a path can be cut without its word becoming greater.)

// before reports whether a is smaller than b.
func before(a, b []int) bool {
	if len(a) != len(b) {
		return len(a) < len(b)
	}
	for i := range a {
		if a[i] != b[i] {
			return a[i] < b[i]
		}
	}
	return false
}

// tree returns the smallest word of s without the nonterminals of path, and whether there is one.
func tree(g api.Gram, s int, path ...int) ([]int, bool) {
	if s <= len(g.Terms) {
		return []int{s}, true
	}
	path = append(path[:len(path):len(path)], s)
	var best []int
	found := false
	for _, r := range g.Rules {
		if r.Left != s {
			continue
		}
		if word, ok := trees(g, r.Right, path); ok && (!found || before(word, best)) {
			best, found = word, true
		}
	}
	return best, found
}

// trees returns the smallest word of the symbols without the nonterminals of path, and whether there is one.
func trees(g api.Gram, symbols []int, path []int) ([]int, bool) {
	var word []int
	for _, s := range symbols {
		if slices.Contains(path, s) {
			return nil, false
		}
		part, ok := tree(g, s, path...)
		if !ok {
			return nil, false
		}
		word = append(word, part...)
	}
	return word, true
}

// language returns for each symbol all of its words of at most n terminals, each as a text with a letter for each terminal.
func language(g api.Gram, n int) []map[string]bool {
	all := make([]map[string]bool, gram.Top(g)+1)
	for s := range all {
		all[s] = map[string]bool{}
		if s <= len(g.Terms) {
			all[s][text(slices.Repeat([]int{s}, min(s, 1)))] = true
		}
	}
	for size := -1; size != sizes(all); {
		size = sizes(all)
		for _, r := range g.Rules {
			heads := []string{""}
			for _, s := range r.Right {
				var longer []string
				for _, head := range heads {
					for tail := range all[s] {
						if len(head)+len(tail) <= n {
							longer = append(longer, head+tail)
						}
					}
				}
				slices.Sort(longer)
				heads = slices.Compact(longer)
			}
			for _, word := range heads {
				all[r.Left][word] = true
			}
		}
	}
	return all
}

// sizes returns how many words there are in all.
func sizes(all []map[string]bool) int {
	n := 0
	for _, words := range all {
		n += len(words)
	}
	return n
}

// text returns a letter for each terminal: A for 1 and so on.
func text(word []int) string {
	var b strings.Builder
	for _, s := range word {
		b.WriteByte(byte('A' + s - 1))
	}
	return b.String()
}

// shortest returns the smallest of some words, and whether there is one.
func shortest(words map[string]bool) (string, bool) {
	var best string
	found := false
	for word := range words {
		if !found || len(word) < len(best) || len(word) == len(best) && word < best {
			best, found = word, true
		}
	}
	return best, found
}

// holds demands that w has this word for s, or none.
func holds(t *testing.T, g api.Gram, w *least.Words, s int, want []int, ok bool) {
	t.Helper()
	length := len(want)
	if !ok {
		length = -1
	}
	if n := w.Length(s); n != length {
		t.Errorf("%.300v: Length(%d) is %d, want %d", g, s, n, length)
	}
	if got, is := w.Word(s); is != ok || !slices.Equal(got, want) {
		t.Errorf("%.300v: Word(%d) is %v %t, want %v %t", g, s, got, is, want, ok)
	}
	if got, is := w.Line([]int{s}); is != ok || !slices.Equal(got, want) {
		t.Errorf("%.300v: Line([%d]) is %v %t, want %v %t", g, s, got, is, want, ok)
	}
}

// agree demands of a small grammar that its words are those of the model, and asks for lines of them.
func agree(t *testing.T, g api.Gram) map[int]bool {
	t.Helper()
	w := least.Of(g)
	if w == nil {
		t.Fatalf("%v is not valid", g)
	}
	known := map[int]bool{}
	words := make([][]int, gram.Top(g)+1)
	for s := range words {
		word, ok := []int(nil), true
		if s > 0 {
			word, ok = tree(g, s)
		}
		words[s], known[s] = word, ok
		holds(t, g, w, s, word, ok)
	}
	for a := range words {
		for b := range words {
			want, ok := slices.Concat(words[a], words[b], words[a]), known[a] && known[b]
			if !ok {
				want = nil
			}
			if got, is := w.Line([]int{a, b, a}); is != ok || !slices.Equal(got, want) {
				t.Errorf("%v: Line([%d %d %d]) is %v %t, want %v %t", g, a, b, a, got, is, want, ok)
			}
		}
	}
	settled(t, g, w)
	return known
}

// settled demands that no right side of a rule has a smaller word than the left side, and that one of the right sides of a
// symbol has just its word. Right sides that are too long are told from those without a word by the lengths of their symbols.
func settled(t *testing.T, g api.Gram, w *least.Words) {
	t.Helper()
	reason := map[int]bool{}
	for i, r := range g.Rules {
		total := 0
		for _, s := range r.Right {
			if n := w.Length(s); n < 0 || total < 0 {
				total = -1
			} else {
				total += n
			}
		}
		left, ok := w.Word(r.Left)
		right, is := w.Line(r.Right)
		switch {
		case is != (total >= 0 && total <= api.MaxWord) || is && len(right) != total:
			t.Errorf("rule %d: the right side has the length %d, and Line returns %d, %t", i, total, len(right), is)
		case total >= 0 && w.Length(r.Left) < 0, is && (!ok || before(right, left)):
			t.Errorf("rule %d: the right side has the smaller word %.50v, the left side %.50v", i, right, left)
		case is && slices.Equal(right, left), total > api.MaxWord && w.Length(r.Left) == api.MaxWord+1:
			reason[r.Left] = true
		}
	}
	for s := 1; s <= gram.Top(g); s++ {
		if gram.Non(g, s) && w.Length(s) >= 0 && !reason[s] {
			t.Errorf("no rule of %d has its word", s)
		}
	}
}

// P10.1, P10.2: all subsets of some rules, in both orders. Where all words of at most four terminals can be listed, the
// minimal word is the smallest one of the list.
func TestSmallGrammars(t *testing.T) {
	counts := map[bool]int{}
	for _, x := range []struct{ terms, nons, rules string }{
		{"", "s", "s : | s : s | s : s s"},
		{"A", "s t", "s : | s : A | s : t | s : t s | t : | t : A | t : s | t : A t | t : t t"},
		{"A B C", "s t u", "s : A | s : t u | s : B s | s : u u | t : B | t : t | t : u t | t : C s | u : | u : u u | u : A t B | u : s"},
	} {
		for rules := range sample.Subsets(x.rules) {
			g := grammar(x.terms, x.nons, "s", rules...)
			if gram.Check(g) != api.OK {
				continue
			}
			for _, ok := range agree(t, g) {
				counts[ok]++
			}
			listed(t, g)
			slices.Reverse(g.Rules)
			agree(t, g)
		}
	}
	if counts[false] < 100 || counts[true] < 1000 {
		t.Errorf("the grammars are too much alike: %v", counts)
	}
}

// listed holds the words of g against all of at most four terminals.
func listed(t *testing.T, g api.Gram) {
	t.Helper()
	const most = 4
	w := least.Of(g)
	for s, words := range language(g, most) {
		want, ok := shortest(words)
		got, is := w.Word(s)
		if ok && (!is || text(got) != want) || !ok && is && len(got) <= most {
			t.Errorf("%v: the word of %d is %v %t, the smallest one that is listed is %q %t", g, s, got, is, want, ok)
		}
	}
}

// P10.1, P10.2: strewn grammars, some of them with more than four symbols on a right side.
func TestStrewnGrammars(t *testing.T) {
	lengths := map[int]int{}
	for g := range sample.Strewn(5000, sample.Size{Terms: 5, Nons: 5, Rules: 3, Right: 5}) {
		if gram.Check(g) != api.OK {
			continue
		}
		agree(t, g)
		lengths[least.Of(g).Length(g.Start)]++
	}
	if lengths[-1] < 100 || lengths[0] < 100 || lengths[1] < 100 || len(lengths) < 8 {
		t.Errorf("the grammars are too much alike: %v", lengths)
	}
}
