package char_test

import (
	"strings"
	"testing"

	"conch/api"
	"conch/char"
)

// The classes as the chapter lists them; every byte in none of the texts has the class COther.
const (
	blanks  = " \t"
	digits  = "0123456789"
	letters = "abcdefghijklmnopqrstuvwxyzABCDEFGHIJKLMNOPQRSTUVWXYZ_"
	metas   = "&|;<>()"
	quotes  = "'\"\\`"
)

func wantClass(c byte) int {
	in := func(s string) bool { return strings.IndexByte(s, c) >= 0 }
	switch {
	case in("\x00"):
		return api.CNone
	case in(blanks):
		return api.CBlank
	case in("\n"):
		return api.CLine
	case in(digits):
		return api.CDigit
	case in(letters):
		return api.CName
	case in(metas):
		return api.CMeta
	case in(quotes):
		return api.CQuote
	case in("$"):
		return api.CDollar
	}
	return api.COther
}

func TestClassOfEveryByte(t *testing.T) {
	for i := 0; i < 256; i++ {
		if got, want := char.Class(byte(i)), wantClass(byte(i)); got != want {
			t.Errorf("Class(%d): %d, want %d", i, got, want)
		}
	}
}

// The bytes just outside of each range, and those that only other rules treat as blanks.
func TestClassAtTheEdges(t *testing.T) {
	for _, c := range []byte{1, '/', ':', '@', '[', '^', '{', '\r', '\v', '\f', 0x7f, 0x80, 0xa0, 0xff, '#', '=', '!', '*', '?', '~', '}'} {
		if got := char.Class(c); got != api.COther {
			t.Errorf("Class(%d): %d, want %d", c, got, api.COther)
		}
	}
	if got := char.Class(0); got != api.CNone {
		t.Errorf("Class(0): %d, want %d", got, api.CNone)
	}
}

func TestSpecialForEveryByte(t *testing.T) {
	for i := 0; i < 256; i++ {
		want := strings.IndexByte("@*#?-$!", byte(i)) >= 0
		if got := char.Special(byte(i)); got != want {
			t.Errorf("Special(%d): %t, want %t", i, got, want)
		}
	}
}

// check asks one of the functions that recognize a form.
func check(t *testing.T, what string, f func(string) bool, right, wrong []string) {
	t.Helper()
	for _, s := range right {
		if !f(s) {
			t.Errorf("%s(%q): false, want true", what, s)
		}
	}
	for _, s := range wrong {
		if f(s) {
			t.Errorf("%s(%q): true, want false", what, s)
		}
	}
}

func TestName(t *testing.T) {
	check(t, "Name", char.Name,
		[]string{"a", "z", "A", "Z", "_", "a1", "_1", "__", "HOME", "x9_Y", strings.Repeat("n", 100000)},
		[]string{"", "0", "9a", "1", "a-", "-a", "a b", " a", "a ", "a\n", "a\x00", "\x00", "\x00a", "a$", "a=", "a.b", "#a", "é", "aé", "a\x80", "\xff", "a\xe9b", "\U00010041"})
}

func TestDigits(t *testing.T) {
	check(t, "Digits", char.Digits,
		[]string{"0", "9", "007", digits, strings.Repeat("8", 100000)},
		[]string{"", "a", "1a", "a1", "-1", "+1", "1 ", " 1", "1\x00", "\x00", "1.5", "/", ":", "\u0661", "1\u0661", "1\x80", "\xff"})
}

func TestPlain(t *testing.T) {
	check(t, "Plain", char.Plain,
		[]string{"a", "1", "_", "a#", "a#b", "1#", "!#", "{}", "~/x", "a=b", "*?[x]", "-", "\x80", "\xff", "é", "aé", "\xc3", "\x7f", "\r", "\x01", strings.Repeat("p", 100000)},
		[]string{"", "#", "#a", "##", "a b", "a\tb", "a\nb", "\n", "a\x00", "\x00", "a;", "&", "|a", "<", "a>", "(", "a)", "'", "a\"", "\\a", "a`", "$", "a$b", "é ", "\xff;"})
}

func TestAssign(t *testing.T) {
	for _, c := range []struct {
		s    string
		want int
	}{
		{"a=", 1}, {"a=b", 1}, {"a1=b=c", 2}, {"_==", 1}, {"ab_9=$x y\n\x00", 4}, {"Z=\xff", 1}, {"x=é=", 1},
		{strings.Repeat("n", 5000) + "=" + strings.Repeat("=", 5000), 5000},
		{"", -1}, {"a", -1}, {"=", -1}, {"==", -1}, {"=b", -1}, {"=a=b", -1}, {"1=b", -1}, {"1a=b", -1},
		{"a-=b", -1}, {"a-b=c", -1}, {"a -b=c=d", -1}, {"1=a=b", -1}, {" a=b", -1}, {"a =b", -1}, {"a+=b", -1}, {"a[1]=b", -1},
		{"\x00=b", -1}, {"a\x00=b", -1}, {"é=b", -1}, {"a\x80=b", -1}, {"a\xc3=b", -1}, {"\xff", -1},
	} {
		if got := char.Assign(c.s); got != c.want {
			t.Errorf("Assign(%q): %d, want %d", c.s, got, c.want)
		}
	}
}

// wantName and the functions below it say the forms byte by byte, another way than the package does.
func wantName(s string) bool {
	return s != "" && strings.IndexByte(letters, s[0]) >= 0 && onlyClasses(s, api.CName, api.CDigit)
}

func wantPlain(s string) bool {
	return s != "" && s[0] != '#' && onlyClasses(s, api.CName, api.CDigit, api.COther)
}

func wantAssign(s string) int {
	i := strings.IndexByte(s, '=')
	if i < 0 || !wantName(s[:i]) {
		return -1
	}
	return i
}

func onlyClasses(s string, classes ...int) bool {
	for i := 0; i < len(s); i++ {
		found := false
		for _, k := range classes {
			found = found || wantClass(s[i]) == k
		}
		if !found {
			return false
		}
	}
	return true
}

func checkAgainstText(t *testing.T, s string) {
	if got, want := char.Name(s), wantName(s); got != want {
		t.Errorf("Name(%q): %t, want %t", s, got, want)
	}
	if got, want := char.Digits(s), s != "" && onlyClasses(s, api.CDigit); got != want {
		t.Errorf("Digits(%q): %t, want %t", s, got, want)
	}
	if got, want := char.Plain(s), wantPlain(s); got != want {
		t.Errorf("Plain(%q): %t, want %t", s, got, want)
	}
	if got, want := char.Assign(s), wantAssign(s); got != want {
		t.Errorf("Assign(%q): %d, want %d", s, got, want)
	}
}

// Every byte alone, ahead of others, between them and behind them.
func TestFormsWithEveryByte(t *testing.T) {
	for i := 0; i < 256; i++ {
		c := string([]byte{byte(i)})
		for _, s := range []string{c, c + "a", "a" + c, "1" + c, c + "1", "#" + c, "a" + c + "b", "a" + c + "=b", c + "=", "a=" + c, c + c} {
			checkAgainstText(t, s)
		}
	}
}

// All short strings of bytes that stand for the classes and for the pieces of runes.
func TestFormsOfAllShortStrings(t *testing.T) {
	const some = "\x00 \nz_A09#=$;'\\-\x80\xc3\xe2\xff"
	texts := []string{""}
	for n := 0; n < 4; n++ {
		var longer []string
		for _, s := range texts {
			checkAgainstText(t, s)
			for i := 0; i < len(some); i++ {
				longer = append(longer, s+some[i:i+1])
			}
		}
		texts = longer
	}
}
