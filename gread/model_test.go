package gread_test

import (
	"fmt"
	"slices"
	"strings"
	"testing"

	"conch/api"
	"conch/fault"
	"conch/gram"
	"conch/gread"
	"conch/gtok"
)

// The model is the chapter once more by other means: the form is a table of states, and each error is looked for in the
// whole source as if there were no others.

// States of the form.
const (
	atDecl   = iota // ahead of a declaration or the %%
	atTerm          // behind %token
	atTerms         // behind a terminal of a %token
	atStart         // behind %start
	atRule          // behind %%
	atColon         // behind the name of a rule
	atSymbol        // on a right side
	atRules         // behind a rule
	atEnd
)

// steps leads from a state by a kind of token to the next state.
var steps = map[int]map[int]int{
	atDecl:   {api.GToken: atTerm, api.GStart: atStart, api.GMark: atRule},
	atTerm:   {api.GName: atTerms, api.GQuoted: atTerms},
	atTerms:  {api.GName: atTerms, api.GQuoted: atTerms, api.GToken: atTerm, api.GStart: atStart, api.GMark: atRule},
	atStart:  {api.GName: atDecl},
	atRule:   {api.GName: atColon},
	atColon:  {api.GColon: atSymbol},
	atSymbol: {api.GName: atSymbol, api.GQuoted: atSymbol, api.GBar: atSymbol, api.GSemi: atRules},
	atRules:  {api.GName: atColon, api.GEnd: atEnd},
}

// modelRule is a rule of the model: names, and the offset at which the right side begins.
type modelRule struct {
	left  string
	right []string
	at    int
}

// parts are the tokens of a source by what they are there.
type parts struct {
	terms  []api.Tok // the declared ones
	marks  []api.Tok // each %start
	starts []api.Tok // the names behind them
	lefts  []api.Tok
	uses   []api.Tok // the symbols of all right sides
	ninth  []int     // the offsets of the symbols that are too many for their right sides
	rules  []modelRule
}

// partsOf returns the parts of a source, or the error of its form.
func partsOf(toks []api.Tok) (parts, api.Errno, int) {
	var p parts
	state, side := atDecl, -1
	for _, tok := range toks {
		next, ok := steps[state][tok.K]
		if !ok && tok.K == api.GEnd {
			return parts{}, api.ErrEnd, tok.At
		} else if !ok {
			return parts{}, api.ErrToken, tok.At
		}
		switch {
		case next == atTerms:
			p.terms = append(p.terms, tok)
		case next == atStart:
			p.marks = append(p.marks, tok)
		case state == atStart:
			p.starts = append(p.starts, tok)
		case next == atColon:
			p.lefts = append(p.lefts, tok)
		case state == atSymbol:
			side = p.use(tok, side)
		}
		state = next
	}
	return p, api.OK, -1
}

// use adds a token of a right side. side is the offset at which that begins, or -1 if it has not begun yet.
func (p *parts) use(tok api.Tok, side int) int {
	if side < 0 {
		side = tok.At
		p.rules = append(p.rules, modelRule{left: p.lefts[len(p.lefts)-1].S, at: side})
	}
	if tok.K == api.GBar || tok.K == api.GSemi {
		return -1
	}
	last := &p.rules[len(p.rules)-1]
	last.right = append(last.right, tok.S)
	if len(last.right) == 9 {
		p.ninth = append(p.ninth, tok.At)
	}
	p.uses = append(p.uses, tok)
	return side
}

// wrong is an error of a source.
type wrong struct {
	at int
	e  api.Errno
}

// texts returns the texts of tokens.
func texts(toks []api.Tok) []string {
	var list []string
	for _, tok := range toks {
		list = append(list, tok.S)
	}
	return list
}

// first returns each text once, at its first occurrence, and the tokens that are too many if there may be most of them.
func first(toks []api.Tok, most int) (list []string, over []api.Tok) {
	for _, tok := range toks {
		if slices.Contains(list, tok.S) {
			continue
		}
		if list = append(list, tok.S); len(list) > most {
			over = append(over, tok)
		}
	}
	return list, over
}

// allTerms are the tokens that make terminals, in order.
func (p parts) allTerms() []api.Tok {
	all := slices.Clone(p.terms)
	for _, tok := range p.uses {
		if tok.K == api.GQuoted {
			all = append(all, tok)
		}
	}
	return all
}

// wrongs returns all errors of the parts, those that the chapter names first ahead of the others.
func (p parts) wrongs() []wrong {
	var list []wrong
	add := func(at int, e api.Errno, is bool) {
		if is {
			list = append(list, wrong{at, e})
		}
	}
	terms, lefts := texts(p.terms), texts(p.lefts)
	for i, tok := range p.terms {
		add(tok.At, api.ErrTwice, slices.Contains(terms[:i], tok.S))
	}
	for i, tok := range p.marks {
		add(tok.At, api.ErrTwice, i > 0)
	}
	for _, tok := range p.lefts {
		add(tok.At, api.ErrTwice, slices.Contains(terms, tok.S))
	}
	for i, r := range p.rules {
		add(r.at, api.ErrTwice, slices.ContainsFunc(p.rules[:i], func(old modelRule) bool {
			return old.left == r.left && slices.Equal(old.right, r.right)
		}))
	}
	for _, tok := range p.uses {
		add(tok.At, api.ErrNone, tok.K == api.GName && !slices.Contains(terms, tok.S) && !slices.Contains(lefts, tok.S))
	}
	for _, tok := range p.starts {
		add(tok.At, api.ErrNone, !slices.Contains(lefts, tok.S))
	}
	_, terminals := first(p.allTerms(), 120)
	_, nonterminals := first(p.lefts, 120)
	for _, tok := range slices.Concat(terminals, nonterminals) {
		add(tok.At, api.ErrMany, true)
	}
	for i, r := range p.rules {
		add(r.at, api.ErrMany, i >= 300)
	}
	for _, at := range p.ninth {
		add(at, api.ErrMany, true)
	}
	return list
}

// grammar returns the grammar of parts without errors.
func (p parts) grammar() api.Gram {
	var g api.Gram
	g.Terms, _ = first(p.allTerms(), 120)
	g.Nons, _ = first(p.lefts, 120)
	all := slices.Concat(g.Terms, g.Nons)
	number := func(s string) int { return slices.Index(all, s) + 1 }
	g.Start = number(g.Nons[0])
	if len(p.starts) > 0 {
		g.Start = number(p.starts[0].S)
	}
	for _, r := range p.rules {
		one := api.Rule{Left: number(r.left)}
		for _, s := range r.right {
			one.Right = append(one.Right, number(s))
		}
		g.Rules = append(g.Rules, one)
	}
	return g
}

// model returns what Parse must return for s.
func model(s string) (api.Gram, api.Errno, int) {
	toks, err := gtok.All(s)
	if err != nil {
		return api.Gram{}, fault.Code(err), fault.At(err)
	}
	p, e, at := partsOf(toks)
	if e != api.OK {
		return api.Gram{}, e, at
	}
	list := p.wrongs()
	if len(list) == 0 {
		return p.grammar(), api.OK, -1
	}
	worst := list[0]
	for _, w := range list {
		if w.at < worst.at {
			worst = w
		}
	}
	return api.Gram{}, worst.e, worst.at
}

// show renders a grammar so that no two that differ look alike; nil and empty lists do.
func show(g api.Gram) string {
	var b strings.Builder
	fmt.Fprintf(&b, "%q %q %d", g.Terms, g.Nons, g.Start)
	for _, r := range g.Rules {
		fmt.Fprintf(&b, " %d%v", r.Left, r.Right)
	}
	return b.String()
}

// cut shortens a source for a message.
func cut(s string) string {
	if len(s) > 300 {
		return fmt.Sprintf("%q .. %q (%d bytes)", s[:100], s[len(s)-100:], len(s))
	}
	return fmt.Sprintf("%q", s)
}

// accept reads s, which must have just that grammar. What is returned must be valid and ordered (P7.2).
func accept(t *testing.T, s string, want string) {
	t.Helper()
	g, err := gread.Parse(s)
	if err != nil {
		t.Errorf("%s is %d at %d, want %s", cut(s), fault.Code(err), fault.At(err), want)
		return
	}
	if got := show(g); got != want {
		t.Errorf("%s is %s, want %s", cut(s), got, want)
	}
	if e := gram.Check(g); e != api.OK {
		t.Errorf("%s: the grammar is not valid: %d", cut(s), e)
	}
	if !gram.Ordered(g) {
		t.Errorf("%s: the grammar is not ordered", cut(s))
	}
}

// refuse reads s, which must have an error, and no grammar.
func refuse(t *testing.T, s string, e api.Errno, at int) {
	t.Helper()
	g, err := gread.Parse(s)
	if !fault.Is(err, e) || fault.Code(err) != e || fault.At(err) != at {
		t.Errorf("%s is %d at %d, want %d at %d", cut(s), fault.Code(err), fault.At(err), e, at)
	}
	if len(g.Terms)+len(g.Nons)+len(g.Rules) > 0 || g.Start != 0 {
		t.Errorf("%s has an error and the grammar %s", cut(s), show(g))
	}
}

// agree compares what Parse returns for s with the model.
func agree(t *testing.T, s string) {
	t.Helper()
	g, e, at := model(s)
	if e != api.OK {
		refuse(t, s, e, at)
	} else {
		accept(t, s, show(g))
	}
}
