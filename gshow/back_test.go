package gshow_test

import (
	"strings"
	"testing"

	"conch/api"
	"conch/fault"
	"conch/gram"
	"conch/gread"
	"conch/gshow"
)

// back shows g, which must have the text of the model, and parses that, which must yield g.
func back(t *testing.T, g api.Gram) {
	t.Helper()
	shows(t, g, model(g))
	s := gshow.Show(g)
	got, err := gread.Parse(s)
	if err != nil {
		t.Errorf("%.300q is %d at %d", s, fault.Code(err), fault.At(err))
	} else if !gram.Same(got, g) {
		t.Errorf("%.300q yields %v, want %v", s, got, g)
	}
}

// P8.1, P8.3: all small grammars that are valid and ordered are shown and come back; the others have no text.
func TestSmallGrammars(t *testing.T) {
	var shown, not int
	try := func(terms, nons string, rules []api.Rule) {
		top := len(strings.Fields(terms)) + len(strings.Fields(nons))
		for start := -1; start <= top+1; start++ {
			g := grammar(terms, nons, start, rules...)
			if gram.Check(g) == api.OK && gram.Ordered(g) {
				back(t, g)
				shown++
			} else {
				shows(t, g, "")
				not++
			}
		}
	}
	for _, x := range []struct {
		terms, nons string
		rules       []api.Rule
	}{
		{"", "s", rulesOf(1, 1)}, {"", "s t", rulesOf(1, 2)}, {"A", "s", rulesOf(1, 2)}, {"'x'", "s t", rulesOf(2, 3)}, {"A 'A'", "s t u", rulesOf(3, 5)}, {"A 'A'", "s", rulesOf(3, 4)},
	} {
		lists(x.rules, 4, func(rules []api.Rule) { try(x.terms, x.nons, rules) })
	}
	if shown < 2000 || not < 2000 {
		t.Errorf("%d are shown, %d not", shown, not)
	}
}

// rulesOf returns rules with the left sides from least to top and short right sides.
func rulesOf(least, top int) []api.Rule {
	var list []api.Rule
	for left := least; left <= top; left++ {
		list = append(list, rule(left), rule(left, 1), rule(left, top, left))
	}
	return list
}

// lists calls f for all lists of at most most rules of all.
func lists(all []api.Rule, most int, f func(rules []api.Rule)) {
	var add func(ahead []api.Rule)
	add = func(ahead []api.Rule) {
		f(ahead)
		if len(ahead) == most {
			return
		}
		for _, r := range all {
			add(append(ahead[:len(ahead):len(ahead)], r))
		}
	}
	add(nil)
}

// P8.1, P8.3: grammars of all sizes that a simple rule strews are shown and come back.
func TestStrewnGrammars(t *testing.T) {
	state := uint32(5)
	next := func(n int) int {
		state = state*1664525 + 1013904223
		return int(state>>8) % n
	}
	for range 3000 {
		g := sized(next(6), 1+next(6), 0)
		lefts, top := 0, gram.Top(g)
		for range 40 {
			left := next(lefts+1) + 1
			if left > len(g.Nons) {
				left = 1
			}
			r := rule(len(g.Terms) + left)
			for range next(4) {
				r.Right = append(r.Right, 1+next(top))
			}
			if !known(g, r) {
				g.Rules = append(g.Rules, r)
				lefts = max(lefts, left)
			}
		}
		g.Nons = g.Nons[:lefts]
		g.Start = len(g.Terms) + 1 + next(lefts)
		if gram.Check(g) == api.OK {
			back(t, g)
		} else {
			shows(t, g, "")
		}
	}
}

// known reports whether g has the rule.
func known(g api.Gram, r api.Rule) bool {
	for _, old := range g.Rules {
		if gram.Same(api.Gram{Rules: []api.Rule{old}}, api.Gram{Rules: []api.Rule{r}}) {
			return true
		}
	}
	return false
}

// long returns a grammar whose text has n bytes, by names of terminals that no rule uses.
func long(t *testing.T, n int) api.Gram {
	t.Helper()
	g := sized(api.MaxTerms, api.MaxNons, api.MaxRules)
	g.Nons[0] += "_of_many" // on so many right sides that the terminals need only do the rest
	for i := range g.Terms {
		missing := n - len(model(g))
		g.Terms[i] += strings.Repeat("_", max(0, min(missing, api.MaxName-len(g.Terms[i]))))
	}
	if got := len(model(g)); got != n {
		t.Fatalf("the text has %d bytes, want %d", got, n)
	}
	return g
}

// P8.1, P8.3: a text of MaxGram bytes comes back. A longer one is returned all the same, but it is too long to be parsed.
func TestMaxGram(t *testing.T) {
	for n := api.MaxGram - 2; n <= api.MaxGram; n++ {
		back(t, long(t, n))
	}
	for n := api.MaxGram + 1; n <= api.MaxGram+2; n++ {
		g := long(t, n)
		shows(t, g, model(g))
		if _, err := gread.Parse(gshow.Show(g)); !fault.Is(err, api.ErrLong) || fault.At(err) != 0 {
			t.Errorf("a text of %d bytes is %d at %d", n, fault.Code(err), fault.At(err))
		}
	}
}

// P8.3: names and quoted tokens of all bytes that they can have come back.
func TestNames(t *testing.T) {
	for c := range 256 {
		for _, name := range []string{string([]byte{byte(c)}), "a" + string([]byte{byte(c)}), "'" + string([]byte{byte(c)}) + "'", "'/*" + string([]byte{byte(c)}) + "*/'"} {
			g := grammar("", "s", 2, rule(2, 1, 1), rule(2, 2, 1))
			g.Terms = []string{name}
			if gram.Check(g) == api.OK {
				back(t, g)
			} else {
				shows(t, g, "")
			}
		}
	}
	a, b, q := strings.Repeat("a", api.MaxName), strings.Repeat("b", api.MaxName), "'"+strings.Repeat("c", api.MaxName-2)+"'"
	back(t, grammar(a+" "+q, b+" s", 4, rule(3, 1, 2), rule(4, 3)))
}

// P8.3: what a source yields comes back, and is then shown as the same text.
func TestSources(t *testing.T) {
	for _, s := range []string{
		"%% s : ;", "%% s : s | ;", "%token A %% s : A s | ;", "%token A B %start t %% s : t ; t : s | A B 'x' ;", "%% s : 'y' | 'x' 'y' ; t : ; s : 'z' | ;",
		"%start u %token 'x' /* A */ %token A\n%% s : u t\t;t:A|'x';u:;s:'y';", "%token s_ _s %% s : s_ _s ; t : s ; s : t ;",
	} {
		g, err := gread.Parse(s)
		if err != nil {
			t.Fatalf("%q is %d at %d", s, fault.Code(err), fault.At(err))
		}
		back(t, g)
		text := gshow.Show(g)
		if again, err := gread.Parse(text); err != nil || gshow.Show(again) != text {
			t.Errorf("%q is then shown as %q", text, gshow.Show(again))
		}
	}
}
