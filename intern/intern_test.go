package intern_test

import (
	"math"
	"slices"
	"strconv"
	"strings"
	"testing"

	"conch/api"
	"conch/intern"
)

// roomy are capacities below 0 and above MaxSet, with what they count as, and some that count as they are.
func roomy() map[int]int {
	return map[int]int{
		math.MinInt: 0, math.MinInt32: 0, -2: 0, -1: 0,
		0: 0, 1: 1, 2: 2, 64: 64, 4095: 4095, 4096: 4096,
		4097: 4096, 5000: 4096, math.MaxInt32: 4096, math.MaxInt: 4096,
	}
}

// wrong are strings that cannot be names: the empty one, and those that are too long.
func wrong() []string {
	return []string{
		"",
		strings.Repeat("a", api.MaxName+1),
		strings.Repeat("a", api.MaxName) + "\x00",
		strings.Repeat("é", api.MaxName/2) + "x", // 13 runes, but 25 bytes
		strings.Repeat("a", 10000),
	}
}

// odd are names that a careless comparison would take for one another, and names of any bytes.
func odd() []string {
	longest := strings.Repeat("a", api.MaxName)
	return []string{
		"a", "A", "aa", "a ", " a", "a\x00", "\x00", "\x00\x00", " ", "\n", "0", "00", "-1",
		"\xff", "\xfe", "\xff\xfe", "\ufffd", "é", "e\u0301", "'", `"`, `\`, "$", "name", "Name",
		longest, longest[1:], longest[1:] + "b", "b" + longest[1:], strings.Repeat("é", api.MaxName/2),
	}
}

// name returns the k-th of many different names.
func name(k int) string { return "n" + strconv.Itoa(k) }

// put puts s, which must be taken with the number want.
func put(t *testing.T, n *intern.Names, s string, want int) {
	t.Helper()
	if i, e := n.Put(s); i != want || e != api.OK {
		t.Fatalf("Put(%q) is %d, %d, want %d, OK", s, i, e, want)
	}
}

// refuse puts s, which must be refused.
func refuse(t *testing.T, n *intern.Names, s string, want api.Errno) {
	t.Helper()
	if i, e := n.Put(s); i != 0 || e != want {
		t.Errorf("Put(%q) is %d, %d, want 0, %d", s, i, e, want)
	}
}

// of makes a collection with the given capacity and names, which are different.
func of(t *testing.T, most int, names ...string) *intern.Names {
	t.Helper()
	n := intern.New(most)
	for i, s := range names {
		put(t, n, s, i)
	}
	return n
}

// check asks everything that reads a collection; want are its names by their numbers.
func check(t *testing.T, what string, n *intern.Names, want ...string) {
	t.Helper()
	if got := n.Len(); got != len(want) {
		t.Errorf("%s: Len is %d, want %d", what, got, len(want))
	}
	if got := n.All(); !slices.Equal(got, want) {
		t.Errorf("%s: All is %q, want %q", what, got, want)
	}
	for i, s := range want {
		if got, ok := n.Text(i); got != s || !ok {
			t.Errorf("%s: Text(%d) is %q, %t, want %q", what, i, got, ok, s)
		}
		if got := n.Find(s); got != i {
			t.Errorf("%s: Find(%q) is %d, want %d", what, s, got, i)
		}
	}
	for _, i := range []int{len(want), len(want) + 1, api.MaxSet, api.MaxSet + 1, math.MaxInt32, math.MaxInt, -1, -2, -len(want) - 1, math.MinInt32, math.MinInt} {
		if got, ok := n.Text(i); (got != "" || ok) && (i < 0 || i >= len(want)) {
			t.Errorf("%s: Text(%d) is %q, %t", what, i, got, ok)
		}
	}
	for _, s := range append(wrong(), "absent", strings.Repeat("z", api.MaxName)) {
		if got := n.Find(s); got != -1 {
			t.Errorf("%s: Find(%q) is %d", what, s, got)
		}
	}
}

// P4.1: a new collection is empty and takes most names, but at least 0 and at most MaxSet.
func TestNew(t *testing.T) {
	if api.MaxSet != 4096 || api.MaxName != 24 {
		t.Fatal("the limits are not those of the document")
	}
	for most, room := range roomy() {
		n := intern.New(most)
		check(t, "New", n)
		var all []string
		for k := range room {
			put(t, n, name(k), k)
			all = append(all, name(k))
		}
		refuse(t, n, "more", api.ErrFull)
		refuse(t, n, name(room), api.ErrFull)
		check(t, "full", n, all...)
	}
}

// P4.1: a name gets the next number, and the same one when it is put again.
func TestPut(t *testing.T) {
	n := intern.New(10)
	for i, s := range []string{"s", "list", "A", "'+'", "list'"} {
		put(t, n, s, i)
		put(t, n, s, i)
		put(t, n, "s", 0)
	}
	check(t, "names", n, "s", "list", "A", "'+'", "list'")
	put(t, n, "A", 2)
	put(t, n, "next", 5)
	check(t, "one more", n, "s", "list", "A", "'+'", "list'", "next")
}

// P4.1: a name has 1 to MaxName bytes, whatever they are.
func TestLengths(t *testing.T) {
	n := intern.New(2 * api.MaxName)
	var all []string
	for k := 1; k <= api.MaxName; k++ {
		s := strings.Repeat("x", k)
		put(t, n, s, len(all))
		all = append(all, s)
		refuse(t, n, strings.Repeat("x", api.MaxName+k), api.ErrLong)
		refuse(t, n, "", api.ErrLong)
	}
	check(t, "all lengths", n, all...)
	put(t, n, strings.Repeat("é", api.MaxName/2), api.MaxName)
	for _, s := range wrong() {
		refuse(t, n, s, api.ErrLong)
	}
	check(t, "bytes, not runes", n, append(all, strings.Repeat("é", api.MaxName/2))...)
}

// P4.1: when the capacity is exhausted, names that are present still have their numbers, and others are refused.
func TestFull(t *testing.T) {
	n := of(t, 3, "a", "b", "c")
	for range 2 {
		refuse(t, n, "d", api.ErrFull)
		refuse(t, n, "A", api.ErrFull)
		refuse(t, n, strings.Repeat("a", api.MaxName), api.ErrFull)
		put(t, n, "c", 2)
		put(t, n, "a", 0)
		put(t, n, "b", 1)
		check(t, "full", n, "a", "b", "c")
	}
}

// P2, P4.1: of several errors the first one that the chapter names is returned: ErrZero, ErrLong, ErrFull.
func TestFirstError(t *testing.T) {
	var none *intern.Names
	for _, s := range wrong() {
		refuse(t, none, s, api.ErrZero)
		refuse(t, of(t, 1, "a"), s, api.ErrLong)
		refuse(t, intern.New(0), s, api.ErrLong)
		refuse(t, intern.New(-1), s, api.ErrLong)
	}
	refuse(t, intern.New(0), "a", api.ErrFull)
	refuse(t, intern.New(-1), "a", api.ErrFull)
}

// P2: an error changes nothing; the next name gets the next number.
func TestErrorsChangeNothing(t *testing.T) {
	n := of(t, 2, "a")
	for _, s := range wrong() {
		refuse(t, n, s, api.ErrLong)
	}
	check(t, "after ErrLong", n, "a")
	put(t, n, "b", 1)
	refuse(t, n, "c", api.ErrFull)
	check(t, "after ErrFull", n, "a", "b")
}

// P4.1: a nil collection has no names and takes none.
func TestNil(t *testing.T) {
	var none *intern.Names
	check(t, "nil", none)
	for _, s := range append(odd(), wrong()...) {
		refuse(t, none, s, api.ErrZero)
		if got := none.Find(s); got != -1 {
			t.Errorf("Find(%q) of nil is %d", s, got)
		}
	}
	if s, ok := none.Text(0); s != "" || ok {
		t.Errorf("Text(0) of nil is %q, %t", s, ok)
	}
	check(t, "nil", none)
}

// P1: a collection that no call created has the capacity 0.
func TestZero(t *testing.T) {
	zero := &intern.Names{}
	check(t, "zero", zero)
	refuse(t, zero, "a", api.ErrFull)
	refuse(t, zero, "", api.ErrLong)
	check(t, "zero", zero)
}

// P4.1: Find asks for the very same bytes, and adds nothing.
func TestFind(t *testing.T) {
	n := of(t, 100, odd()...)
	check(t, "odd", n, odd()...)
	for _, s := range []string{"b", "nam", "name ", "names", "NAME", "\xfd", "\x00a", "É"} {
		for range 2 {
			if got := n.Find(s); got != -1 {
				t.Errorf("Find(%q) is %d", s, got)
			}
		}
	}
	check(t, "odd after Find", n, odd()...)
}

// P4.1: the list that All returned and the collection do not change each other.
func TestAllIsNew(t *testing.T) {
	n := of(t, 10, "a", "b", "c")
	l := n.All()
	put(t, n, "d", 3)
	if !slices.Equal(l, []string{"a", "b", "c"}) {
		t.Errorf("the list changed: %q", l)
	}
	l[0] = "z"
	_ = append(l, "y")
	check(t, "names", n, "a", "b", "c", "d")
	m := n.All()
	_ = append(m, "y")
	put(t, n, "e", 4)
	m[4-1] = "z"
	check(t, "names", n, "a", "b", "c", "d", "e")
}

// P5: collections do not know of each other.
func TestApart(t *testing.T) {
	a, b := of(t, 2, "x", "y"), of(t, 3, "y", "z")
	put(t, b, "x", 2)
	refuse(t, a, "z", api.ErrFull)
	check(t, "a", a, "x", "y")
	check(t, "b", b, "y", "z", "x")
}

// P4.2: the number of a name never changes, whatever is put after it.
func TestNumbersStay(t *testing.T) {
	n, all := intern.New(api.MaxSet), []string{}
	for k := range api.MaxSet {
		put(t, n, name(k), k)
		all = append(all, name(k))
		if k&(k-1) == 0 { // after 0, 1, 2, 4, 8 .. names
			check(t, "growing", n, all...)
		}
		back := k / 2
		put(t, n, name(back), back)
		if s, ok := n.Text(back); s != name(back) || !ok {
			t.Fatalf("after %d names Text(%d) is %q", k+1, back, s)
		}
	}
	refuse(t, n, "more", api.ErrFull)
	for k := range api.MaxSet {
		put(t, n, name(k), k)
	}
	check(t, "all", n, all...)
}

// P4.2: different names have different numbers, in whatever order and however often they are put.
func TestNumbersDiffer(t *testing.T) {
	names := odd()
	for step := 1; step < 8; step++ {
		n, given, order := intern.New(len(names)), map[int]string{}, []string{}
		for k := range 20 * len(names) {
			s := names[(k*step+k/len(names))%len(names)]
			i, e := n.Put(s)
			if e != api.OK || i < 0 || i >= len(names) {
				t.Fatalf("step %d: Put(%q) is %d, %d", step, s, i, e)
			}
			if old, ok := given[i]; ok && old != s {
				t.Fatalf("step %d: %q and %q have the number %d", step, old, s, i)
			}
			if !slices.Contains(order, s) {
				order = append(order, s)
			}
			given[i] = s
		}
		check(t, "odd", n, order...)
	}
}

func TestExample(t *testing.T) {
	n := intern.New(10)
	put(t, n, "a", 0)
	put(t, n, "b", 1)
	put(t, n, "a", 0)
}
