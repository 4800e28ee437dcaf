package gtok_test

import (
	"regexp"
	"slices"
	"strings"
	"testing"

	"conch/api"
	"conch/fault"
	"conch/gtok"
)

// gap is the kind that the model gives to what stands between tokens.
const gap = -1

// form is what one kind of token, or of gap, looks like.
type form struct {
	kind int
	re   *regexp.Regexp
}

// forms are those of P5.1, written once more by other means.
var forms = []form{
	{gap, regexp.MustCompile(`^[ \t\n\r]+`)},
	{gap, regexp.MustCompile(`^(?s:/\*.*?\*/)`)},
	{api.GName, regexp.MustCompile(`^[A-Za-z_][A-Za-z_0-9]*`)},
	{api.GQuoted, regexp.MustCompile(`^'[!-&(-~]+'`)},
	{api.GColon, regexp.MustCompile(`^:`)},
	{api.GBar, regexp.MustCompile(`^\|`)},
	{api.GSemi, regexp.MustCompile(`^;`)},
	{api.GMark, regexp.MustCompile(`^%%`)},
	{api.GToken, regexp.MustCompile(`^%token([^A-Za-z_]|$)`)},
	{api.GStart, regexp.MustCompile(`^%start([^A-Za-z_]|$)`)},
}

// opened is a quoted token up to the byte that cannot be part of it.
var opened = regexp.MustCompile(`^'[!-&(-~]*`)

// match returns the kind and the text of what s begins with.
func match(s string) (int, string) {
	for _, f := range forms {
		text := f.re.FindString(s)
		if text == "" {
			continue
		}
		if f.kind == api.GToken || f.kind == api.GStart {
			text = s[:len("%token")]
		}
		return f.kind, text
	}
	return gap, ""
}

// model returns what All must return for s.
func model(s string) ([]api.Tok, api.Errno, int) {
	if len(s) > api.MaxGram {
		return nil, api.ErrLong, 0
	}
	var toks []api.Tok
	for at := 0; at < len(s); {
		kind, text := match(s[at:])
		switch {
		case text == "":
			e, off := unmatched(s, at)
			return nil, e, off
		case (kind == api.GName || kind == api.GQuoted) && len(text) > api.MaxName:
			return nil, api.ErrLong, at
		case kind != gap:
			toks = append(toks, api.Tok{K: kind, S: text, At: at})
		}
		at += len(text)
	}
	return append(toks, api.Tok{K: api.GEnd, At: len(s)}), api.OK, -1
}

// unmatched returns the error of what begins at the offset at and is neither a token nor a gap.
func unmatched(s string, at int) (api.Errno, int) {
	if strings.HasPrefix(s[at:], "/*") {
		return api.ErrEnd, len(s)
	}
	body := opened.FindString(s[at:])
	switch {
	case body == "":
		return api.ErrChar, at
	case len(body) > api.MaxName:
		return api.ErrLong, at
	case at+len(body) == len(s):
		return api.ErrEnd, len(s)
	}
	return api.ErrChar, at + len(body)
}

// accept reads s, which must have just these tokens.
func accept(t *testing.T, s string, want ...api.Tok) {
	t.Helper()
	got, err := gtok.All(s)
	if err != nil {
		t.Errorf("All(%.80q) is %d at %d, want %v", s, fault.Code(err), fault.At(err), want)
	} else if !slices.Equal(got, want) {
		t.Errorf("All(%.80q) is %v, want %v", s, got, want)
	}
}

// refuse reads s, which must have an error, and no tokens.
func refuse(t *testing.T, s string, e api.Errno, at int) {
	t.Helper()
	got, err := gtok.All(s)
	if !fault.Is(err, e) || fault.Code(err) != e || fault.At(err) != at {
		t.Errorf("All(%.80q) is %d at %d, want %d at %d", s, fault.Code(err), fault.At(err), e, at)
	}
	if len(got) != 0 {
		t.Errorf("All(%.80q) has an error and the tokens %v", s, got)
	}
}

// agree compares what All and Quoted return for s with the model.
func agree(t *testing.T, s string) {
	t.Helper()
	want, e, at := model(s)
	if e != api.OK {
		refuse(t, s, e, at)
	} else {
		accept(t, s, want...)
	}
	one := len(want) == 2 && want[0] == api.Tok{K: api.GQuoted, S: s}
	if got := gtok.Quoted(s); got != one {
		t.Errorf("Quoted(%.80q) is %t", s, got)
	}
}

// joined calls f for all sequences of at most most pieces.
func joined(pieces []string, most int, f func(s string)) {
	var add func(s string, left int)
	add = func(s string, left int) {
		f(s)
		if left == 0 {
			return
		}
		for _, p := range pieces {
			add(s+p, left-1)
		}
	}
	add("", most)
}

// tok, and end, make tokens.
func tok(k int, s string, at int) api.Tok { return api.Tok{K: k, S: s, At: at} }
func end(at int) api.Tok                  { return api.Tok{K: api.GEnd, At: at} }

// each is one text of each kind of token.
func each() []api.Tok {
	return []api.Tok{
		tok(api.GName, "a", 0), tok(api.GName, "_", 0), tok(api.GName, "Z9_z0", 0), tok(api.GName, "token", 0),
		tok(api.GQuoted, "'x'", 0), tok(api.GQuoted, "'&&'", 0), tok(api.GQuoted, "'%%'", 0), tok(api.GQuoted, "'/*'", 0),
		tok(api.GColon, ":", 0), tok(api.GBar, "|", 0), tok(api.GSemi, ";", 0),
		tok(api.GMark, "%%", 0), tok(api.GToken, "%token", 0), tok(api.GStart, "%start", 0),
	}
}

// gaps are all kinds of what can stand between tokens.
func gaps() []string {
	return []string{
		" ", "\t", "\n", "\r", "  ", " \t\r\n", "/**/", "/***/", "/****/", "/*/*/", "/*//*/", "/* */", "/*a:'*/", "/* ' */",
		"/* %x ? \x00 \xff */", "/*\n*\n/\n*/", "/* /* */", "/* * / */", "/**/ /**/", "/**//**/", "\n/* x */\t",
	}
}

// P5.1: each kind of token has its text and its offset.
func TestEachKind(t *testing.T) {
	for _, x := range each() {
		accept(t, x.S, x, end(len(x.S)))
		accept(t, "\n\t"+x.S+" ", tok(x.K, x.S, 2), end(len(x.S)+3))
	}
}

// P5.1: without tokens there is only the end, at the end of the text.
func TestNoTokens(t *testing.T) {
	accept(t, "", end(0))
	for _, g := range gaps() {
		accept(t, g, end(len(g)))
		accept(t, g+g, end(2*len(g)))
	}
}

// P5.1: whatever is skipped between two tokens, in front of all and behind all, only their offsets change.
func TestGaps(t *testing.T) {
	for _, g := range gaps() {
		n := len(g)
		accept(t, g+"a"+g+"a1"+g, tok(api.GName, "a", n), tok(api.GName, "a1", 2*n+1), end(3*n+3))
		accept(t, "'x'"+g+"%start"+g+":", tok(api.GQuoted, "'x'", 0), tok(api.GStart, "%start", n+3), tok(api.GColon, ":", 2*n+9), end(2*n+10))
		accept(t, "%token"+g+"a"+g+"%%", tok(api.GToken, "%token", 0), tok(api.GName, "a", n+6), tok(api.GMark, "%%", 2*n+7), end(2*n+9))
	}
}

// P5.1: tokens need nothing between them, where the bytes of the next one cannot belong to the one ahead.
func TestSideBySide(t *testing.T) {
	for _, a := range each() {
		for _, b := range each() {
			if b.K == api.GName && (a.K == api.GName || a.K == api.GToken || a.K == api.GStart) {
				continue // they become one
			}
			n := len(a.S)
			accept(t, a.S+b.S, a, tok(b.K, b.S, n), end(n+len(b.S)))
		}
	}
	accept(t, "ab", tok(api.GName, "ab", 0), end(2))
	accept(t, "a_1b", tok(api.GName, "a_1b", 0), end(4))
	accept(t, ";;||::", tok(api.GSemi, ";", 0), tok(api.GSemi, ";", 1), tok(api.GBar, "|", 2), tok(api.GBar, "|", 3), tok(api.GColon, ":", 4), tok(api.GColon, ":", 5), end(6))
	accept(t, "%%%%", tok(api.GMark, "%%", 0), tok(api.GMark, "%%", 2), end(4))
	accept(t, "%%%start", tok(api.GMark, "%%", 0), tok(api.GStart, "%start", 2), end(8))
	accept(t, "%%s:'x'|;", tok(api.GMark, "%%", 0), tok(api.GName, "s", 2), tok(api.GColon, ":", 3), tok(api.GQuoted, "'x'", 4), tok(api.GBar, "|", 7), tok(api.GSemi, ";", 8), end(9))
	accept(t, "'a''b'", tok(api.GQuoted, "'a'", 0), tok(api.GQuoted, "'b'", 3), end(6))
}

// P5.1: a comment ends with the next */, and the * that opens it is not part of that.
func TestComments(t *testing.T) {
	accept(t, "a/*b*/c", tok(api.GName, "a", 0), tok(api.GName, "c", 6), end(7))
	accept(t, "/*/*/a", tok(api.GName, "a", 5), end(6))
	accept(t, "/**/a/**/", tok(api.GName, "a", 4), end(9))
	accept(t, "'/*'a'*/'", tok(api.GQuoted, "'/*'", 0), tok(api.GName, "a", 4), tok(api.GQuoted, "'*/'", 5), end(9))
	refuse(t, "/*/", api.ErrEnd, 3)
	refuse(t, "/* */ */", api.ErrChar, 6)
	refuse(t, "/* /* */ */", api.ErrChar, 9)
	refuse(t, "*/", api.ErrChar, 0)
	refuse(t, "a*/", api.ErrChar, 1)
	joined([]string{"*", "/", "a", " "}, 6, func(s string) {
		agree(t, s)
		agree(t, "/*"+s)
		agree(t, "/*"+s+"*/b")
	})
}

// P5.1, P5.2: what each byte is at the beginning of a token, in a name, behind a token, and within quotes.
func TestEveryByte(t *testing.T) {
	for i := range 256 {
		c := string([]byte{byte(i)})
		for _, s := range []string{c, "a" + c, "a" + c + "b", c + "b", c + c, "'" + c + "'", "'x" + c + "x'", "'x" + c, "%" + c, "%token" + c, "%start" + c + "b", "%%" + c, ":" + c, "/" + c, "/*" + c + "*/"} {
			agree(t, s)
		}
		within := "'" + c + "'"
		if good := i >= 33 && i <= 126 && i != '\''; gtok.Quoted(within) != good {
			t.Errorf("Quoted(%q) is %t", within, !good)
		}
	}
	for _, c := range []string{"!", "~", "&", "(", "\"", "\\", "%", ";"} {
		accept(t, "'"+c+"'", tok(api.GQuoted, "'"+c+"'", 0), end(3))
	}
	for _, c := range []string{" ", "\x7f", "\x00", "\t", "\n", "\x80", "\xff", "é"} {
		refuse(t, "'"+c+"'", api.ErrChar, 1)
		refuse(t, "'ab"+c+"'", api.ErrChar, 3)
	}
	for _, c := range []string{"0", "9", "?", "*", ",", "\"", "`", "{", "\v", "\f", "\x00", "\x7f", "\x80", "\xa0", "é"} {
		refuse(t, c, api.ErrChar, 0)
		refuse(t, "a "+c+"b", api.ErrChar, 2)
	}
}

// P5.1, P5.2: all letters behind a % belong to the token, and nothing else does.
func TestPercent(t *testing.T) {
	for _, s := range []string{"%", "%a", "% token", "%tokens", "%tokentoken", "%tokenstart", "%starts", "%starttoken", "%toke", "%star", "%Token", "%START", "%Start", "%token_", "%_token", "%1", "%'x'", "%:", "%/**/token", "%\n%"} {
		refuse(t, s, api.ErrChar, 0)
		refuse(t, "a "+s, api.ErrChar, 2)
		refuse(t, s+" b", api.ErrChar, 0)
	}
	accept(t, "%token%start", tok(api.GToken, "%token", 0), tok(api.GStart, "%start", 6), end(12))
	accept(t, "%token:", tok(api.GToken, "%token", 0), tok(api.GColon, ":", 6), end(7))
	accept(t, "%%token", tok(api.GMark, "%%", 0), tok(api.GName, "token", 2), end(7))
	accept(t, "%%tokens", tok(api.GMark, "%%", 0), tok(api.GName, "tokens", 2), end(8))
	refuse(t, "%%%", api.ErrChar, 2)
	refuse(t, "%token%", api.ErrChar, 6)
	refuse(t, "%start1", api.ErrChar, 6)
}

// P5.2: a name has at most MaxName bytes.
func TestLongNames(t *testing.T) {
	for n := 1; n <= 3*api.MaxName; n++ {
		s := strings.Repeat("n", n)
		for _, s := range []string{s, "_" + s[1:], s[1:] + "9"} {
			if s == "9" {
				continue
			}
			if n > api.MaxName {
				refuse(t, s, api.ErrLong, 0)
				refuse(t, "a : "+s+" ;", api.ErrLong, 4)
				continue
			}
			accept(t, s, tok(api.GName, s, 0), end(n))
			accept(t, ":"+s+":", tok(api.GColon, ":", 0), tok(api.GName, s, 1), tok(api.GColon, ":", n+1), end(n+2))
		}
	}
}

// P5.2: a quoted token has at most MaxName bytes, both quotes counted.
func TestLongQuoted(t *testing.T) {
	for n := 1; n <= 3*api.MaxName; n++ {
		s := "'" + strings.Repeat("+", n) + "'"
		if got, want := gtok.Quoted(s), len(s) <= api.MaxName; got != want {
			t.Errorf("Quoted(%q) is %t", s, got)
		}
		if len(s) > api.MaxName {
			refuse(t, s, api.ErrLong, 0)
			refuse(t, "a : "+s+" ;", api.ErrLong, 4)
			continue
		}
		accept(t, s, tok(api.GQuoted, s, 0), end(n+2))
		accept(t, s+s, tok(api.GQuoted, s, 0), tok(api.GQuoted, s, n+2), end(2*n+4))
	}
}

// P5.2: a quoted token that is too long is so at its beginning, whatever is wrong behind; a shorter one has the error that is behind.
func TestLongAndWrong(t *testing.T) {
	for n := 1; n <= 2*api.MaxName; n++ {
		s := "'" + strings.Repeat("x", n-1) // n bytes
		if n > api.MaxName {
			refuse(t, s, api.ErrLong, 0)
			refuse(t, s+" '", api.ErrLong, 0)
			refuse(t, s+"\n", api.ErrLong, 0)
			continue
		}
		refuse(t, s, api.ErrEnd, n)
		refuse(t, s+" '", api.ErrChar, n)
		refuse(t, s+"\n", api.ErrChar, n)
		refuse(t, s+" "+strings.Repeat("x", api.MaxName)+"'", api.ErrChar, n)
	}
}

// P5.2: a text has at most MaxGram bytes; of what is wrong in a longer one nothing else is told.
func TestLongTexts(t *testing.T) {
	if api.MaxGram != 8192 || api.MaxName != 24 {
		t.Fatal("the limits are not those of the document")
	}
	accept(t, strings.Repeat(" ", api.MaxGram), end(api.MaxGram))
	accept(t, "/*"+strings.Repeat("*", api.MaxGram-3)+"/", end(api.MaxGram))
	accept(t, strings.Repeat(" ", api.MaxGram-1)+"a", tok(api.GName, "a", api.MaxGram-1), end(api.MaxGram))
	var semis []api.Tok
	for i := range api.MaxGram {
		semis = append(semis, tok(api.GSemi, ";", i))
	}
	accept(t, strings.Repeat(";", api.MaxGram), append(semis, end(api.MaxGram))...)
	for _, s := range []string{" ", ";", "a", "?", "'", "%", "\x00", "/*"} {
		long := strings.Repeat(s, api.MaxGram+1)
		refuse(t, long[:api.MaxGram+1], api.ErrLong, 0)
		refuse(t, strings.Repeat(long, 3), api.ErrLong, 0)
		agree(t, long[:api.MaxGram])
		agree(t, s+strings.Repeat(" ", api.MaxGram-len(s)))
		agree(t, strings.Repeat(" ", api.MaxGram-len(s))+s)
	}
	refuse(t, "/*"+strings.Repeat("*", api.MaxGram-2), api.ErrEnd, api.MaxGram)
}

// P5.2: what is wrong, and where.
func TestErrors(t *testing.T) {
	for _, x := range []struct {
		s  string
		e  api.Errno
		at int
	}{
		{"a ?", api.ErrChar, 2}, {"1a", api.ErrChar, 0}, {"a 1", api.ErrChar, 2}, {"a\x00", api.ErrChar, 1},
		{"''", api.ErrChar, 1}, {"a '' b", api.ErrChar, 3}, {"'''", api.ErrChar, 1}, {"''''", api.ErrChar, 1}, {"'a'''", api.ErrChar, 4},
		{"'", api.ErrEnd, 1}, {"'a", api.ErrEnd, 2}, {"a 'bc", api.ErrEnd, 5}, {"'a'b'", api.ErrEnd, 5}, {"'a b'", api.ErrChar, 2},
		{"/", api.ErrChar, 0}, {"a /", api.ErrChar, 2}, {"//", api.ErrChar, 0}, {"/ *", api.ErrChar, 0}, {"/a*/", api.ErrChar, 0},
		{"/*", api.ErrEnd, 2}, {"/* *", api.ErrEnd, 4}, {"/* * /", api.ErrEnd, 6}, {"a /* b", api.ErrEnd, 6}, {"/**/ /*", api.ErrEnd, 7},
	} {
		refuse(t, x.s, x.e, x.at)
	}
}

// P5.2: of several errors the one with the smallest offset is returned.
func TestFirstError(t *testing.T) {
	long := strings.Repeat("n", api.MaxName+1)
	wrongs := []struct {
		s  string
		e  api.Errno
		at int
	}{
		{"?", api.ErrChar, 0}, {"%tokens", api.ErrChar, 0}, {"/", api.ErrChar, 0}, {"''", api.ErrChar, 1}, {"'a b'", api.ErrChar, 2},
		{long, api.ErrLong, 0}, {"'" + long + "'", api.ErrLong, 0}, {"'" + long, api.ErrLong, 0},
	}
	for _, a := range wrongs {
		refuse(t, a.s+" '", a.e, a.at)
		refuse(t, a.s+" /*", a.e, a.at)
		for _, b := range wrongs {
			refuse(t, a.s+" "+b.s, a.e, a.at)
			refuse(t, "b : "+a.s+" "+b.s+" "+a.s, a.e, a.at+4)
			refuse(t, "/*"+b.s+"*/"+a.s, a.e, a.at+len(b.s)+4) // nothing is wrong within a comment
		}
	}
}

// P5.2: Quoted takes one quoted token, with nothing in front of it or behind it.
func TestQuoted(t *testing.T) {
	longest := "'" + strings.Repeat("x", api.MaxName-2) + "'"
	for _, s := range []string{"'a'", "'&&'", "';;'", "'!'", "'~'", "'/*'", "'%%'", longest} {
		if !gtok.Quoted(s) {
			t.Errorf("Quoted(%q) is false", s)
		}
		for _, wrong := range []string{s[1:], s[:len(s)-1], s + " ", " " + s, s + s, s + "'", "'" + s, s + "a", "a" + s, s + "\n", s + "/**/", s + "\x00"} {
			if gtok.Quoted(wrong) {
				t.Errorf("Quoted(%q) is true", wrong)
			}
		}
	}
	for _, s := range []string{"", "'", "''", "'''", "a", "aaa", ":", "%%", "\"a\"", "'a b'", "' '", "'\t'", "'\x7f'", "'é'", "/**/'a'", "'" + longest[1:len(longest)-1] + "x'", strings.Repeat("'", api.MaxGram+1), "'" + strings.Repeat("x", 2*api.MaxGram) + "'"} {
		if gtok.Quoted(s) {
			t.Errorf("Quoted(%.80q) is true", s)
		}
	}
}

// P5.1, P5.2: all short texts of the bytes that matter.
func TestShortTexts(t *testing.T) {
	joined([]string{"a", "_", "1", "'", "%", "/", "*", ";", " ", "\n", "?"}, 4, func(s string) { agree(t, s) })
	joined([]string{"'", "a", "'a", "''"}, 6, func(s string) { agree(t, s) })
}

// parts are tokens, gaps and pieces of both.
func parts() []string {
	return []string{"%token", "%start", "%%", "%", "token", "s", "_", "9", "'x'", "'", "':'", ":", "|", ";", " ", "\n", "/*", "*/", "/", "?", strings.Repeat("n", api.MaxName), "'" + strings.Repeat("q", api.MaxName-2)}
}

// P5.1, P5.2: texts of tokens and of pieces of tokens in any order; the same text has the same tokens each time.
func TestParts(t *testing.T) {
	joined(parts(), 3, func(s string) {
		agree(t, s)
		agree(t, s)
	})
}

// P5.3: a blank between two tokens, behind the one or ahead of the other, changes only the offsets.
func TestAnotherBlank(t *testing.T) {
	joined(parts(), 3, func(s string) {
		toks, err := gtok.All(s)
		if err != nil {
			return
		}
		for i := 1; i < len(toks); i++ {
			behind := toks[i-1].At + len(toks[i-1].S)
			want := slices.Clone(toks)
			for k := i; k < len(want); k++ {
				want[k].At++
			}
			for _, at := range []int{behind, toks[i].At} {
				accept(t, s[:at]+" "+s[at:], want...)
			}
		}
	})
}

// P4: what the caller writes to the tokens does not come back.
func TestListsAreNew(t *testing.T) {
	s := "a : 'x' ;"
	first, _ := gtok.All(s)
	clear(first)
	agree(t, s)
}

func TestExample(t *testing.T) {
	accept(t, "a: 'x' | ;", tok(api.GName, "a", 0), tok(api.GColon, ":", 1), tok(api.GQuoted, "'x'", 3), tok(api.GBar, "|", 7), tok(api.GSemi, ";", 9), end(10))
}

// A whole source, as chapter 8 formats one.
func TestSource(t *testing.T) {
	s := "%token A ';;'\n%start s\n%%\ns :\n\t| s A\n\t;\n"
	accept(t, s,
		tok(api.GToken, "%token", 0), tok(api.GName, "A", 7), tok(api.GQuoted, "';;'", 9),
		tok(api.GStart, "%start", 14), tok(api.GName, "s", 21), tok(api.GMark, "%%", 23),
		tok(api.GName, "s", 26), tok(api.GColon, ":", 28), tok(api.GBar, "|", 31), tok(api.GName, "s", 33), tok(api.GName, "A", 35),
		tok(api.GSemi, ";", 38), end(40))
}
