package bits_test

import (
	"math"
	"slices"
	"testing"

	"conch/api"
	"conch/bits"
)

// rooms are capacities at the edges of words, and the least and the greatest one.
func rooms() []int {
	return []int{0, 1, 2, 63, 64, 65, 127, 128, 129, 200, api.MaxSet - 1, api.MaxSet}
}

// outside are numbers that no set of the capacity n can hold.
func outside(n int) []int {
	return []int{n, n + 1, n + 63, n + 64, api.MaxSet, api.MaxSet + 1, math.MaxInt32, math.MaxInt - 64, math.MaxInt, -1, -2, -63, -64, -65, math.MinInt32, math.MinInt + 1, math.MinInt}
}

// of makes a set of the capacity n with the given elements.
func of(t *testing.T, n int, elements ...int) *bits.Set {
	t.Helper()
	s := bits.New(n)
	for _, i := range elements {
		if !s.Put(i) {
			t.Fatalf("New(%d): Put(%d) of a new element is false", n, i)
		}
	}
	return s
}

// check asks everything that reads a set, for every number near the capacity; want is in increasing order.
func check(t *testing.T, what string, s *bits.Set, room int, want ...int) {
	t.Helper()
	if got := s.Room(); got != room {
		t.Errorf("%s: Room is %d, want %d", what, got, room)
	}
	if got := s.Count(); got != len(want) {
		t.Errorf("%s: Count is %d, want %d", what, got, len(want))
	}
	if got := s.List(); !slices.Equal(got, want) {
		t.Errorf("%s: List is %v, want %v", what, got, want)
	}
	left := want
	for i := range room + 130 {
		has := len(left) > 0 && left[0] == i
		if got := s.Has(i); got != has {
			t.Errorf("%s: Has(%d) is %t", what, i, got)
		}
		next := -1
		if len(left) > 0 {
			next = left[0]
		}
		if got := s.Next(i); got != next {
			t.Errorf("%s: Next(%d) is %d, want %d", what, i, got, next)
		}
		if has {
			left = left[1:]
		}
	}
	checkOutside(t, what, s, room, want)
}

// checkOutside asks what reads a set with numbers that it cannot hold.
func checkOutside(t *testing.T, what string, s *bits.Set, room int, want []int) {
	t.Helper()
	for _, i := range outside(room) {
		if s.Has(i) {
			t.Errorf("%s: Has(%d) is true", what, i)
		}
		next := -1
		if i < 0 && len(want) > 0 {
			next = want[0]
		}
		if got := s.Next(i); got != next {
			t.Errorf("%s: Next(%d) is %d, want %d", what, i, got, next)
		}
	}
}

// P3.1: the capacity is n, but at least 0 and at most MaxSet, and a new set is empty.
func TestNew(t *testing.T) {
	for _, n := range rooms() {
		check(t, "New", bits.New(n), n)
	}
	for _, n := range []int{-1, -3, -64, -65, math.MinInt32, math.MinInt} {
		check(t, "New below 0", bits.New(n), 0)
	}
	for _, n := range []int{api.MaxSet + 1, api.MaxSet + 64, 5000, math.MaxInt32, math.MaxInt - 63, math.MaxInt} {
		s := bits.New(n)
		check(t, "New above MaxSet", s, api.MaxSet)
		if !s.Put(api.MaxSet-1) || s.Put(api.MaxSet) {
			t.Errorf("New(%d): the greatest element is not MaxSet - 1", n)
		}
	}
}

// P3.1: each integer within the capacity can be put and dropped once, and changes nothing else.
func TestPutDrop(t *testing.T) {
	for _, n := range rooms() {
		s := bits.New(n)
		for i := range min(n, 200) {
			if s.Drop(i) || s.Has(i) || !s.Put(i) || s.Put(i) || !s.Has(i) {
				t.Errorf("room %d: Put(%d)", n, i)
			}
			if s.Count() != i+1 || s.Next(i) != i || s.Next(i+1) != -1 {
				t.Errorf("room %d: Put(%d) changes others", n, i)
			}
		}
		for i := range min(n, 200) {
			if !s.Drop(i) || s.Drop(i) || s.Has(i) {
				t.Errorf("room %d: Drop(%d)", n, i)
			}
			if s.Count() != min(n, 200)-i-1 || s.Next(0) != s.Next(i+1) {
				t.Errorf("room %d: Drop(%d) changes others", n, i)
			}
		}
		check(t, "emptied", s, n)
	}
}

// P3.1: integers outside the capacity are ignored, in an empty set and in one that has elements.
func TestOutside(t *testing.T) {
	for _, n := range rooms() {
		var elements []int
		if n > 0 {
			elements = slices.Compact([]int{0, n - 1})
		}
		for _, want := range [][]int{nil, elements} {
			s := of(t, n, want...)
			for _, i := range outside(n) {
				if i >= 0 && i < n {
					continue
				}
				if s.Put(i) || s.Drop(i) {
					t.Errorf("room %d: Put(%d) or Drop(%d) is true", n, i, i)
				}
			}
			check(t, "numbers outside", s, n, want...)
		}
	}
}

// P3.1: Or adds what fits, tells whether it added anything, and leaves the other set as it is.
func TestOr(t *testing.T) {
	for _, c := range []struct {
		what       string
		n, m       int
		a, b, both []int
		changes    bool
	}{
		{"both empty", 10, 10, nil, nil, nil, false},
		{"to an empty one", 10, 10, nil, []int{3, 9}, []int{3, 9}, true},
		{"an empty one", 10, 10, []int{3}, nil, []int{3}, false},
		{"the same", 10, 10, []int{3, 4}, []int{3, 4}, []int{3, 4}, false},
		{"a part", 10, 10, []int{3, 4}, []int{4}, []int{3, 4}, false},
		{"some new", 10, 10, []int{3, 4}, []int{4, 5}, []int{3, 4, 5}, true},
		{"only the first word changes", 130, 130, []int{129}, []int{0, 129}, []int{0, 129}, true},
		{"only the last word changes", 130, 130, []int{0}, []int{0, 129}, []int{0, 129}, true},
		{"a greater capacity", 70, 200, []int{1}, []int{69, 70, 71, 127, 128, 199}, []int{1, 69}, true},
		{"nothing fits in the word", 70, 200, []int{1}, []int{70, 71, 127}, []int{1}, false},
		{"nothing fits behind it", 64, 200, []int{1}, []int{64, 65, 199}, []int{1}, false},
		{"a smaller capacity", 200, 70, []int{1, 70, 199}, []int{2, 69}, []int{1, 2, 69, 70, 199}, true},
		{"a capacity of 0", 0, 200, nil, []int{0, 1, 199}, nil, false},
		{"of a capacity of 0", 200, 0, []int{0, 199}, nil, []int{0, 199}, false},
		{"the greatest capacity", 4096, 4096, []int{0}, []int{4095}, []int{0, 4095}, true},
	} {
		s, u := of(t, c.n, c.a...), of(t, c.m, c.b...)
		if got := s.Or(u); got != c.changes {
			t.Errorf("%s: Or is %t", c.what, got)
		}
		check(t, c.what, s, c.n, c.both...)
		check(t, c.what+", the other", u, c.m, c.b...)
		if s.Or(u) {
			t.Errorf("%s: a second Or is true", c.what)
		}
		if s.Or(s) {
			t.Errorf("%s: Or of the set itself is true", c.what)
		}
		check(t, c.what+", again", s, c.n, c.both...)
	}
}

// P3.1: Or leaves no trace of what did not fit, which would be seen in other sets.
func TestOrLeavesNothingBehind(t *testing.T) {
	wide := of(t, 200, 5, 70, 127, 128)
	s, u := of(t, 70, 5), bits.New(200)
	s.Or(wide)
	if !u.Or(s) {
		t.Error("Or is false")
	}
	check(t, "back in a wide set", u, 200, 5)
	if !bits.Same(s, of(t, 70, 5)) || s.Meet(of(t, 200, 70, 127, 128)) {
		t.Error("Same or Meet sees what did not fit")
	}
	twin := s.Twin()
	check(t, "twin", twin, 70, 5)
}

// P3.1: sets meet if an element is in both of them, whatever the capacities are.
func TestMeet(t *testing.T) {
	for _, c := range []struct {
		n, m int
		a, b []int
		want bool
	}{
		{10, 10, nil, nil, false},
		{10, 10, []int{3}, nil, false},
		{10, 10, []int{3}, []int{3}, true},
		{10, 10, []int{3}, []int{4}, false},
		{10, 10, []int{0, 9}, []int{9}, true},
		{64, 64, []int{63}, []int{63}, true},
		{130, 130, []int{0, 64, 129}, []int{1, 65, 128}, false},
		{130, 130, []int{0, 64, 129}, []int{1, 65, 129}, true},
		{200, 70, []int{69, 199}, []int{69}, true},
		{200, 70, []int{70, 199}, []int{69}, false},
		{200, 64, []int{64, 128}, []int{0}, false},
		{0, 200, nil, []int{0, 199}, false},
		{4096, 4096, []int{4095}, []int{4095}, true},
	} {
		a, b := of(t, c.n, c.a...), of(t, c.m, c.b...)
		for range 2 {
			if a.Meet(b) != c.want || b.Meet(a) != c.want {
				t.Errorf("Meet of %v and %v: want %t", c.a, c.b, c.want)
			}
		}
		check(t, "a", a, c.n, c.a...)
		check(t, "b", b, c.m, c.b...)
		if a.Meet(a) != (len(c.a) > 0) {
			t.Errorf("Meet of %v and itself: want %t", c.a, len(c.a) > 0)
		}
	}
}

// P3.2: Count, Next and List of many elements, at all edges of words.
func TestElements(t *testing.T) {
	check(t, "some", of(t, 130, 129, 64, 3), 130, 3, 64, 129)
	check(t, "edges", of(t, 200, 0, 63, 64, 127, 128, 191, 192, 199), 200, 0, 63, 64, 127, 128, 191, 192, 199)
	check(t, "the last of all", of(t, api.MaxSet, api.MaxSet-1), api.MaxSet, api.MaxSet-1)
	for _, n := range rooms() {
		s, all := bits.New(n), []int{}
		for i := n - 1; i >= 0; i-- {
			s.Put(i)
			all = append(all, n-1-i)
		}
		check(t, "all", s, n, all...)
	}
}

// P3.2: the list that was returned and the set do not change each other.
func TestListIsNew(t *testing.T) {
	s := of(t, 10, 1, 2)
	l := s.List()
	s.Drop(1)
	s.Put(7)
	if !slices.Equal(l, []int{1, 2}) {
		t.Errorf("the list changed: %v", l)
	}
	l[0] = 9
	check(t, "set", s, 10, 2, 7)
}

// P3.2: a copy has the same capacity and elements, and goes its own way, as does what it was made of.
func TestTwin(t *testing.T) {
	for _, n := range rooms() {
		s := bits.New(n)
		check(t, "an empty twin", s.Twin(), n)
	}
	s := of(t, 130, 3, 64, 129)
	a := s.Twin()
	check(t, "twin", a, 130, 3, 64, 129)
	if a == s || !bits.Same(a, s) {
		t.Error("Twin is not an equal set of its own")
	}
	s.Drop(64)
	s.Put(65)
	check(t, "twin, the set having changed", a, 130, 3, 64, 129)
	a.Drop(3)
	a.Put(128)
	check(t, "set, the twin having changed", s, 130, 3, 65, 129)
	b := a.Twin()
	a.Or(s)
	check(t, "twin after Or", a, 130, 3, 64, 65, 128, 129)
	check(t, "twin of the twin", b, 130, 64, 128, 129)
	if a.Put(130) || b.Put(130) {
		t.Error("a twin has another capacity")
	}
}

// P3.2: sets are the same if their elements are, whatever the capacities are.
func TestSame(t *testing.T) {
	lists := [][]int{nil, {0}, {1}, {0, 1}, {63}, {0, 63}, {64}, {63, 64}, {0, 64}, {127}, {128}, {0, 128}, {199}, {4095}, {0, 199, 4095}}
	for _, a := range lists {
		for _, b := range lists {
			for _, n := range rooms() {
				for _, m := range rooms() {
					if len(a) > 0 && a[len(a)-1] >= n || len(b) > 0 && b[len(b)-1] >= m {
						continue
					}
					if got := bits.Same(of(t, n, a...), of(t, m, b...)); got != slices.Equal(a, b) {
						t.Errorf("Same of %v (room %d) and %v (room %d) is %t", a, n, b, m, got)
					}
				}
			}
		}
	}
	s := of(t, 70, 1, 69)
	if !bits.Same(s, s) {
		t.Error("a set is not the same as itself")
	}
}

// P3.2: a nil set has no elements, and takes none.
func TestNil(t *testing.T) {
	var none *bits.Set
	check(t, "nil", none, 0)
	for _, i := range append(outside(0), 1, 63, 64, 65) {
		if none.Put(i) || none.Drop(i) {
			t.Errorf("nil: Put(%d) or Drop(%d) is true", i, i)
		}
	}
	if none.Twin() != nil {
		t.Error("the twin of nil is not nil")
	}
	if none.Or(none) || none.Meet(none) || !bits.Same(none, none) {
		t.Error("nil with nil")
	}
	for _, n := range rooms() {
		empty := bits.New(n)
		if !bits.Same(empty, none) || !bits.Same(none, empty) {
			t.Errorf("nil is not the same as an empty set of room %d", n)
		}
		if n == 0 {
			continue
		}
		s := of(t, n, n-1)
		if s.Or(none) || none.Or(s) || s.Meet(none) || none.Meet(s) || bits.Same(s, none) || bits.Same(none, s) {
			t.Errorf("nil with a set of room %d", n)
		}
		check(t, "set", s, n, n-1)
		check(t, "nil", none, 0)
	}
}

// P1: a set that no call created has the capacity 0.
func TestZero(t *testing.T) {
	zero := &bits.Set{}
	for _, i := range append(outside(0), 1, 63, 64, 65) {
		if zero.Put(i) || zero.Drop(i) {
			t.Errorf("zero: Put(%d) or Drop(%d) is true", i, i)
		}
	}
	s := of(t, 70, 1, 69)
	if zero.Or(s) || s.Or(zero) || zero.Meet(s) || s.Meet(zero) || bits.Same(zero, s) || bits.Same(s, zero) {
		t.Error("zero with another set")
	}
	if !bits.Same(zero, bits.New(70)) || !bits.Same(zero, nil) {
		t.Error("zero is not empty")
	}
	check(t, "zero", zero, 0)
	check(t, "the twin of zero", zero.Twin(), 0)
	check(t, "set", s, 70, 1, 69)
}

// samples are sets with elements that depend on all bits of a number.
func samples(t *testing.T) []*bits.Set {
	var all []*bits.Set
	for _, n := range []int{0, 5, 64, 70, 130, 200} {
		for k := 1; k <= 3; k++ {
			var elements []int
			for i := range n {
				if i*i*k%7 == k || i%64 == 63-k {
					elements = append(elements, i)
				}
			}
			all = append(all, of(t, n, elements...))
		}
	}
	return append(all, nil, bits.New(100))
}

// union returns the elements that are in one of the sets and within the capacity.
func union(n int, sets ...*bits.Set) []int {
	var all []int
	for i := range n {
		if slices.ContainsFunc(sets, func(s *bits.Set) bool { return s.Has(i) }) {
			all = append(all, i)
		}
	}
	return all
}

// P3.3: Or computes the union within the capacity, and removes nothing.
func TestUnion(t *testing.T) {
	for _, a := range samples(t) {
		for _, b := range samples(t) {
			s, want := a.Twin(), union(a.Room(), a, b)
			if s.Or(b) != (len(want) != a.Count()) {
				t.Errorf("Or of %v and %v does not tell whether it changed", a.List(), b.List())
			}
			check(t, "union", s, a.Room(), want...)
			for _, i := range a.List() {
				if !s.Has(i) {
					t.Errorf("Or of %v and %v removes %d", a.List(), b.List(), i)
				}
			}
		}
	}
}

// P3.3: the order of several calls does not matter, nor does it how often they are made.
func TestUnionInAnyOrder(t *testing.T) {
	all := samples(t)
	for _, n := range rooms() {
		up, down, twice := bits.New(n), bits.New(n), bits.New(n)
		for i, s := range all {
			up.Or(s)
			down.Or(all[len(all)-1-i])
			twice.Or(all[i*5%len(all)])
			twice.Or(s)
		}
		want := union(n, all...)
		check(t, "up", up, n, want...)
		check(t, "down", down, n, want...)
		check(t, "twice", twice, n, want...)
		if !bits.Same(up, down) || !bits.Same(up, twice) {
			t.Errorf("room %d: the order matters", n)
		}
	}
	for _, a := range all {
		for _, b := range all {
			s, u := bits.New(70), bits.New(70)
			s.Or(a)
			s.Or(b)
			u.Or(b)
			u.Or(a)
			if !bits.Same(s, u) {
				t.Errorf("the order of %v and %v matters", a.List(), b.List())
			}
		}
	}
}

// A long run of calls that change a set, held against a list of what it must hold.
func TestManyCalls(t *testing.T) {
	for _, n := range []int{1, 64, 130} {
		s, has := bits.New(n), make([]bool, n+70)
		for step, x := 0, 1; step < 3000; step++ {
			x = (x*1103515245 + 12345) % (1 << 31)
			i, put := (x>>8)%(n+70), (x>>20)%2 == 0
			if put && s.Put(i) != (i < n && !has[i]) {
				t.Fatalf("room %d: Put(%d) in step %d", n, i, step)
			}
			if !put && s.Drop(i) != has[i] {
				t.Fatalf("room %d: Drop(%d) in step %d", n, i, step)
			}
			has[i] = put && i < n
			if step%50 == 0 {
				check(t, "many", s, n, held(has)...)
			}
		}
		check(t, "many", s, n, held(has)...)
	}
}

func held(has []bool) []int {
	var l []int
	for i, h := range has {
		if h {
			l = append(l, i)
		}
	}
	return l
}

func TestExample(t *testing.T) {
	s := bits.New(10)
	if !s.Put(3) || s.Put(3) || s.Next(0) != 3 || s.Next(4) != -1 {
		t.Errorf("the example: %v", s.List())
	}
}
