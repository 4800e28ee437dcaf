package gshow_test

import (
	"fmt"
	"math"
	"slices"
	"strconv"
	"strings"
	"testing"

	"conch/api"
	"conch/gram"
	"conch/gshow"
)

func rule(left int, right ...int) api.Rule {
	return api.Rule{Left: left, Right: right}
}

// grammar puts a grammar together: names parted by blanks, Start, and the rules.
func grammar(terms, nons string, start int, rules ...api.Rule) api.Gram {
	return api.Gram{Terms: strings.Fields(terms), Nons: strings.Fields(nons), Start: start, Rules: rules}
}

// small is valid and ordered: A is 1, 'x' is 2, s is 3 and t is 4.
func small() api.Gram {
	return grammar("A 'x'", "s t", 3, rule(3, 1, 4), rule(4), rule(4, 4, 2))
}

// model is what P8.1 says, as lines, of a valid and ordered grammar.
func model(g api.Gram) string {
	all := slices.Concat([]string{"$"}, g.Terms, g.Nons)
	var lines []string
	if len(g.Terms) > 0 {
		lines = append(lines, "%token "+strings.Join(g.Terms, " "))
	}
	lines = append(lines, "%start "+all[g.Start], "%%")
	left := 0
	for _, r := range g.Rules {
		line := "\t|"
		if r.Left != left {
			if left != 0 {
				lines = append(lines, "\t;")
			}
			line = all[r.Left] + " :"
		}
		for _, s := range r.Right {
			line += " " + all[s]
		}
		lines, left = append(lines, line), r.Left
	}
	return strings.Join(append(lines, "\t;", ""), "\n")
}

// twin returns a copy of g that shares no list with it. What lies behind the end of its lists is marked.
func twin(g api.Gram) api.Gram {
	c := api.Gram{Terms: spare(g.Terms, "?"), Nons: spare(g.Nons, "?"), Rules: spare(g.Rules, rule(-9, -9)), Start: g.Start}
	for i := range c.Rules {
		c.Rules[i].Right = spare(c.Rules[i].Right, -9)
	}
	return c
}

// spare returns a copy of list with a mark behind its end.
func spare[E any](list []E, mark E) []E {
	all := append(slices.Clone(list), mark)
	return all[:len(list)]
}

// look renders a grammar with what lies behind the end of its lists.
func look(g api.Gram) string {
	var b strings.Builder
	fmt.Fprintf(&b, "%q %q %d", g.Terms[:len(g.Terms)+1], g.Nons[:len(g.Nons)+1], g.Start)
	for i, r := range g.Rules[:len(g.Rules)+1] {
		if i < len(g.Rules) {
			r.Right = r.Right[:len(r.Right)+1]
		}
		fmt.Fprintf(&b, " %d%v", r.Left, r.Right)
	}
	return b.String()
}

// shows asks Show twice, which must return want each time and leave its argument as it is.
func shows(t *testing.T, g api.Gram, want string) {
	t.Helper()
	g = twin(g)
	before := look(g)
	for range 2 {
		if got := gshow.Show(g); got != want {
			t.Errorf("Show of %.300s is %.300q, want %.300q", before, got, want)
		}
	}
	if look(g) != before {
		t.Errorf("Show modified its argument: %.300s, before %.300s", look(g), before)
	}
}

// ruled asks Rule twice, which must return want each time and leave its arguments as they are.
func ruled(t *testing.T, g api.Gram, r api.Rule, want string) {
	t.Helper()
	g, r.Right = twin(g), spare(r.Right, -9)
	before, left, right := look(g), r.Left, slices.Clone(r.Right[:len(r.Right)+1])
	for range 2 {
		if got := gshow.Rule(g, r); got != want {
			t.Errorf("Rule of %d%v is %.300q, want %.300q", r.Left, r.Right, got, want)
		}
	}
	if look(g) != before || r.Left != left || !slices.Equal(r.Right[:len(r.Right)+1], right) {
		t.Errorf("Rule modified its arguments: %d%v, %.300s", r.Left, r.Right, look(g))
	}
}

// P8.1: the text of a grammar, in full.
func TestShow(t *testing.T) {
	for _, x := range []struct {
		what string
		g    api.Gram
		want string
	}{
		{"no terminals", grammar("", "s", 1, rule(1)), "%start s\n%%\ns :\n\t;\n"},
		{"no terminals, several rules", grammar("", "s t", 1, rule(1, 2, 2), rule(2)), "%start s\n%%\ns : t t\n\t;\nt :\n\t;\n"},
		{"one terminal", grammar("A", "s", 2, rule(2, 1)), "%token A\n%start s\n%%\ns : A\n\t;\n"},
		{"one that is not used", grammar("A", "s", 2, rule(2)), "%token A\n%start s\n%%\ns :\n\t;\n"},
		{"several terminals", grammar("B A C", "s", 4, rule(4, 3, 1, 2)), "%token B A C\n%start s\n%%\ns : C B A\n\t;\n"},
		{"empty right side first", grammar("A", "s", 2, rule(2), rule(2, 1)), "%token A\n%start s\n%%\ns :\n\t| A\n\t;\n"},
		{"empty right side in the middle", grammar("A B", "s", 3, rule(3, 1), rule(3), rule(3, 2)), "%token A B\n%start s\n%%\ns : A\n\t|\n\t| B\n\t;\n"},
		{"empty right side last", grammar("A", "s", 2, rule(2, 1), rule(2)), "%token A\n%start s\n%%\ns : A\n\t|\n\t;\n"},
		{"empty right sides everywhere", grammar("", "s t u", 1, rule(1), rule(2), rule(3)), "%start s\n%%\ns :\n\t;\nt :\n\t;\nu :\n\t;\n"},
		{"quoted terminals", grammar("';' '%%' '|' ':' '/*' '*/'", "s", 7, rule(7, 1, 2, 3), rule(7, 4, 5, 6)), "%token ';' '%%' '|' ':' '/*' '*/'\n%start s\n%%\ns : ';' '%%' '|'\n\t| ':' '/*' '*/'\n\t;\n"},
		{"quoted like names", grammar("A 'A' 's'", "s t", 4, rule(4, 1, 2, 3, 4), rule(5)), "%token A 'A' 's'\n%start s\n%%\ns : A 'A' 's' s\n\t;\nt :\n\t;\n"},
		{"start is the first", grammar("A", "s t", 2, rule(2, 3), rule(3, 1)), "%token A\n%start s\n%%\ns : t\n\t;\nt : A\n\t;\n"},
		{"start is the second", grammar("A", "s t", 3, rule(2, 3), rule(3, 1)), "%token A\n%start t\n%%\ns : t\n\t;\nt : A\n\t;\n"},
		{"start is the last", grammar("A", "s t u", 4, rule(2, 3), rule(3, 1), rule(4, 2)), "%token A\n%start u\n%%\ns : t\n\t;\nt : A\n\t;\nu : s\n\t;\n"},
		{"several rules, then one", grammar("A", "s t", 2, rule(2, 3), rule(2, 1), rule(2, 1, 2), rule(3, 1)), "%token A\n%start s\n%%\ns : t\n\t| A\n\t| A s\n\t;\nt : A\n\t;\n"},
		{"one rule, then several", grammar("A", "s t", 2, rule(2, 3), rule(3, 1), rule(3, 1, 1)), "%token A\n%start s\n%%\ns : t\n\t;\nt : A\n\t| A A\n\t;\n"},
		{"a left side again", grammar("A", "s t", 2, rule(2, 3), rule(3, 1), rule(2), rule(2, 1), rule(3)), "%token A\n%start s\n%%\ns : t\n\t;\nt : A\n\t;\ns :\n\t| A\n\t;\nt :\n\t;\n"},
		{"equal right sides", grammar("A", "s t", 2, rule(2, 1), rule(3, 1)), "%token A\n%start s\n%%\ns : A\n\t;\nt : A\n\t;\n"},
		{"a name of each form", grammar("_ _9 a", "A s_1", 4, rule(4, 1, 2, 3, 5), rule(5)), "%token _ _9 a\n%start A\n%%\nA : _ _9 a s_1\n\t;\ns_1 :\n\t;\n"},
	} {
		t.Run(x.what, func(t *testing.T) {
			shows(t, x.g, x.want)
			if m := model(x.g); m != x.want {
				t.Errorf("the model is %q, want %q", m, x.want)
			}
		})
	}
}

// P8.1: a nil right side and an empty one are alike, as are lists of terminals.
func TestNilAndEmpty(t *testing.T) {
	for _, terms := range [][]string{nil, {}} {
		for _, right := range [][]int{nil, {}} {
			g := api.Gram{Terms: terms, Nons: []string{"s"}, Rules: []api.Rule{{Left: 1, Right: right}}, Start: 1}
			if got := gshow.Show(g); got != "%start s\n%%\ns :\n\t;\n" {
				t.Errorf("Show is %q", got)
			}
			if got := gshow.Rule(g, api.Rule{Left: 1, Right: right}); got != "s :" {
				t.Errorf("Rule is %q", got)
			}
		}
	}
}

// P8.1: a grammar of the greatest size allowed has a text.
func TestLargest(t *testing.T) {
	g := sized(api.MaxTerms, api.MaxNons, api.MaxRules)
	g.Rules[7].Right = slices.Repeat([]int{1}, api.MaxRight)
	g.Terms[0], g.Terms[1] = strings.Repeat("a", api.MaxName), "'"+strings.Repeat("b", api.MaxName-2)+"'"
	g.Nons[0] = strings.Repeat("c", api.MaxName)
	shows(t, g, model(g))
}

// sized returns a grammar with that many terminals, nonterminals and rules. It is ordered, and valid if there are at least as many rules as nonterminals.
func sized(terms, nons, rules int) api.Gram {
	var g api.Gram
	for i := range terms {
		g.Terms = append(g.Terms, "T"+strconv.Itoa(i))
	}
	for i := range nons {
		g.Nons = append(g.Nons, "n"+strconv.Itoa(i))
	}
	for i := range rules {
		g.Rules = append(g.Rules, rule(terms+1+i%nons, slices.Repeat([]int{terms + 1}, i/nons)...))
	}
	g.Start = terms + 1
	return g
}

// with returns small after a change.
func with(change func(g *api.Gram)) api.Gram {
	g := small()
	change(&g)
	return g
}

// renamed returns small with another name of the terminal A or of the nonterminal t.
func renamed(name string, terminal bool) api.Gram {
	return with(func(g *api.Gram) {
		if terminal {
			g.Terms[0] = name
		} else {
			g.Nons[1] = name
		}
	})
}

// more returns small with another rule.
func more(r api.Rule) api.Gram {
	return with(func(g *api.Gram) { g.Rules = append(g.Rules, r) })
}

// started returns small with another Start.
func started(s int) api.Gram {
	return with(func(g *api.Gram) { g.Start = s })
}

// P8.1: grammars that are not valid, by each condition of chapter 6, have no text.
func TestInvalid(t *testing.T) {
	shows(t, small(), "%token A 'x'\n%start s\n%%\ns : A t\n\t;\nt :\n\t| t 'x'\n\t;\n")
	long := strings.Repeat("a", api.MaxName+1)
	for _, x := range []struct {
		e    api.Errno
		list []api.Gram
	}{
		{api.ErrMany, []api.Gram{
			sized(api.MaxTerms+1, 1, 1), sized(1, api.MaxNons+1, api.MaxNons+1), sized(0, api.MaxNons, api.MaxRules+1),
			more(rule(3, slices.Repeat([]int{1}, api.MaxRight+1)...)),
		}},
		{api.ErrForm, []api.Gram{
			renamed("", true), renamed("1", true), renamed("a-b", true), renamed("$", true), renamed(long, true), renamed("A B", true), renamed("\xff", true), renamed("A\n", true),
			renamed("'", true), renamed("''", true), renamed("'a", true), renamed("a'", true), renamed("'a b'", true), renamed("'a''", true), renamed("'"+long[2:]+"'", true),
			renamed("", false), renamed("1", false), renamed("a-b", false), renamed("$", false), renamed(long, false), renamed("'t'", false), renamed(" t", false), renamed("\x00", false),
		}},
		{api.ErrTwice, []api.Gram{
			renamed("'x'", true), renamed("s", false), renamed("s", true), renamed("A", false),
			more(rule(4)), more(rule(4, 4, 2)), more(rule(3, 1, 4)), more(api.Rule{Left: 4, Right: []int{}}),
		}},
		{api.ErrArg, []api.Gram{
			{}, {Start: 1}, grammar("A", "", 1), grammar("A", "", 2),
			started(0), started(1), started(2), started(5), started(-3), started(math.MinInt), started(math.MaxInt),
			more(rule(0)), more(rule(1)), more(rule(2)), more(rule(5)), more(rule(-4)), more(rule(math.MinInt)), more(rule(math.MaxInt)),
			more(rule(3, 0)), more(rule(3, 5)), more(rule(3, 1, -1)), more(rule(4, math.MinInt)), more(rule(4, 1, math.MaxInt)),
		}},
		{api.ErrNone, []api.Gram{
			grammar("", "s", 1), grammar("A", "s t", 2, rule(2, 1)), grammar("A", "s t u", 2, rule(2, 1), rule(3), rule(2)),
		}},
	} {
		for _, g := range x.list {
			if e := gram.Check(g); e != x.e {
				t.Errorf("Check is %d, want %d: %q %q", e, x.e, g.Terms, g.Nons)
			}
			shows(t, g, "")
		}
	}
}

// P8.1: valid grammars that are not ordered have no text.
func TestNotOrdered(t *testing.T) {
	for _, g := range []api.Gram{
		grammar("", "s t", 1, rule(2), rule(1)), grammar("A", "s t", 3, rule(3, 1), rule(2)), grammar("A", "s t u", 2, rule(2), rule(4), rule(3)),
		grammar("A", "s t u", 2, rule(2), rule(2, 1), rule(4), rule(2, 2), rule(3)), grammar("", "s t u", 3, rule(3), rule(1), rule(2)),
	} {
		if e := gram.Check(g); e != api.OK || gram.Ordered(g) {
			t.Errorf("Check is %d, Ordered is %t: %q", e, gram.Ordered(g), g.Nons)
		}
		shows(t, g, "")
	}
}

// P8.2: a rule with the names that its symbols have in the grammar.
func TestRule(t *testing.T) {
	g := grammar("A ';'", "s t", 3, rule(3, 1, 4), rule(3), rule(4, 2))
	for _, x := range []struct {
		r    api.Rule
		want string
	}{
		{rule(3, 1, 4), "s : A t"}, {rule(3), "s :"}, {rule(4, 2), "t : ';'"}, {rule(4, 4, 4, 3, 3), "t : t t s s"},
		{rule(4, 3, 1), "t : s A"}, {rule(1, 2), "A : ';'"}, {rule(2), "';' :"}, {rule(0, 3), "$ : s"}, {rule(0), "$ :"}, {rule(3, 0), "s : $"},
		{rule(0, 0, 0), "$ : $ $"}, {rule(5), " :"}, {rule(-1), " :"}, {rule(3, 5), "s : "}, {rule(3, -1), "s : "}, {rule(5, 5, 5), " :  "},
		{rule(3, 1, 5, 4), "s : A  t"}, {rule(math.MinInt, math.MaxInt), " : "}, {rule(math.MaxInt, 1, math.MinInt, 0), " : A  $"},
		{rule(4, slices.Repeat([]int{1}, 9)...), "t :" + strings.Repeat(" A", 9)}, {rule(4, slices.Repeat([]int{2}, 5000)...), "t :" + strings.Repeat(" ';'", 5000)},
	} {
		ruled(t, g, x.r, x.want)
	}
}

// P8.2: the augmented rule.
func TestAugmentedRule(t *testing.T) {
	for _, x := range []struct {
		start int
		want  string
	}{{3, "$ : s"}, {4, "$ : t"}, {1, "$ : A"}, {0, "$ : $"}, {5, "$ : "}, {-1, "$ : "}} {
		g := started(x.start)
		r, ok := gram.Rule(g, len(g.Rules))
		if !ok {
			t.Fatal("there is no augmented rule")
		}
		ruled(t, g, r, x.want)
	}
}

// P8.2: a grammar need be neither valid nor ordered.
func TestRuleOfAnyGrammar(t *testing.T) {
	for _, x := range []struct {
		g    api.Gram
		r    api.Rule
		want string
	}{
		{api.Gram{}, api.Rule{}, "$ :"}, {api.Gram{}, rule(1, 0, 1), " : $ "}, {api.Gram{Start: 5}, rule(5, 5), " : "},
		{grammar("A A", "", 0), rule(1, 2, 3), "A : A "}, {grammar("", "s s", 0), rule(2, 1), "s : s"}, {grammar("'", "' 1", 9), rule(3, 2, 1), "1 : ' '"},
		{api.Gram{Terms: []string{"", " ", "a b"}, Nons: []string{"\n", "$", "\xff\x00"}}, rule(1, 2, 3, 4, 5, 6), " :   a b \n $ \xff\x00"},
		{grammar("", "s t", 1, rule(2), rule(1)), rule(2, 1), "t : s"},
		{sized(api.MaxTerms+1, api.MaxNons+1, 0), rule(242, 121, 122, 241, 243), "n120 : T120 n0 n119 "},
		{api.Gram{Nons: []string{strings.Repeat("s", 5000)}}, rule(1, 1), strings.Repeat("s", 5000) + " : " + strings.Repeat("s", 5000)},
	} {
		ruled(t, x.g, x.r, x.want)
	}
}

// The example of the chapter.
func TestExample(t *testing.T) {
	ruled(t, grammar("A", "s t", 2), rule(2, 1, 3), "s : A t")
}
