package fault_test

import (
	"errors"
	"fmt"
	"math"
	"strconv"
	"testing"

	"conch/api"
	"conch/fault"
)

// Errors of another package: one that wraps, one that cannot be compared, and some that misbehave.
type (
	wrap   struct{ err error }
	list   []error
	liar   struct{}
	broken struct{ err error }
	mapped struct{}
)

func (w wrap) Error() string   { return "wrap" }
func (w wrap) Unwrap() error   { return w.err }
func (l list) Error() string   { return "list" }
func (l list) Unwrap() []error { return l }

func (liar) Error() string { return "liar" }
func (liar) Is(error) bool { return true }
func (liar) As(any) bool   { return true }

func (b *broken) Error() string { return "broken" }
func (b *broken) Unwrap() error { return b.err } // panics for nil

func (mapped) Error() string        { return "mapped" }
func (mapped) Is(target error) bool { return target == api.ErrChar }

// numbers are those of package api but OK, and numbers that it does not have.
func numbers() []api.Errno {
	es := []api.Errno{-1, math.MinInt, math.MaxInt, api.ErrFull + 1}
	for e := api.ErrArg; e <= api.ErrFull; e++ {
		es = append(es, e)
	}
	return es
}

func positions() []int {
	return []int{0, 1, 7, -1, -2, math.MinInt, math.MaxInt}
}

// check compares what the four functions that read say about err.
func check(t *testing.T, what string, err error, e api.Errno, at int, name string) {
	t.Helper()
	if got := fault.Code(err); got != e {
		t.Errorf("%s: Code is %d, want %d", what, got, e)
	}
	if got := fault.At(err); got != at {
		t.Errorf("%s: At is %d, want %d", what, got, at)
	}
	if got := fault.Name(err); got != name {
		t.Errorf("%s: Name is %q, want %q", what, got, name)
	}
}

// checkIs compares Is for every number with the numbers that err wraps.
func checkIs(t *testing.T, what string, err error, has ...api.Errno) {
	t.Helper()
	for _, e := range append(numbers(), api.OK) {
		want := false
		for _, h := range has {
			want = want || h == e
		}
		if got := fault.Is(err, e); got != want {
			t.Errorf("%s: Is for %d is %v", what, e, got)
		}
	}
}

// P2.1: New returns nil for OK, whatever the position.
func TestNewOK(t *testing.T) {
	for _, at := range positions() {
		if err := fault.New(api.OK, at); err != nil {
			t.Errorf("New(OK, %d) is %v", at, err)
		}
	}
}

// P2.1, P2.2: an error made by New has its number and its position, and errors.Is finds no other number.
func TestNew(t *testing.T) {
	for _, e := range numbers() {
		for _, at := range positions() {
			what := fmt.Sprintf("New(%d, %d)", e, at)
			err := fault.New(e, at)
			if err == nil {
				t.Fatalf("%s is nil", what)
			}
			check(t, what, err, e, at, "")
			checkIs(t, what, err, e)
			for _, other := range append(numbers(), api.OK) {
				if errors.Is(err, other) != (other == e) {
					t.Errorf("%s: errors.Is for %d is %v", what, other, other != e)
				}
			}
		}
	}
}

// P2.1: In returns nil for nil, and otherwise an error that wraps the given one.
func TestIn(t *testing.T) {
	for _, name := range []string{"", "g", "a b\n\x00\xff"} {
		if err := fault.In(name, nil); err != nil {
			t.Errorf("In(%q, nil) is %v", name, err)
		}
		if err := fault.In(name, fault.New(api.OK, 3)); err != nil {
			t.Errorf("In(%q, New(OK, 3)) is %v", name, err)
		}
		err := fault.In(name, fault.New(api.ErrEnd, 3))
		what := strconv.Quote(name)
		check(t, what, err, api.ErrEnd, 3, name)
		checkIs(t, what, err, api.ErrEnd)
		if !errors.Is(err, api.ErrEnd) || errors.Is(err, api.ErrChar) {
			t.Errorf("%q: errors.Is does not find the number alone", name)
		}
	}
	other := errors.New("other")
	if err := fault.In("g", other); err == nil || !errors.Is(err, other) {
		t.Errorf("In does not wrap the error of another package: %v", err)
	}
}

// P2.2: nil has the number OK and nothing else.
func TestNil(t *testing.T) {
	check(t, "nil", nil, api.OK, -1, "")
	checkIs(t, "nil", nil, api.OK)
}

// P2.2: an error that wraps none made by New has the number ErrArg, but Is finds no number in it. The numbers
// themselves are not made by New, nor is what claims to be one.
func TestOther(t *testing.T) {
	var none *broken
	for what, err := range map[string]error{
		"other":              errors.New("other"),
		"wrapped other":      fmt.Errorf("more: %w", errors.New("other")),
		"a bare number":      api.ErrChar,
		"a wrapped number":   fmt.Errorf("more: %w", api.ErrChar),
		"a bare OK":          api.OK,
		"a wrapped nil":      wrap{nil},
		"an empty list":      list{},
		"a list of nil":      list{nil, nil},
		"claims any":         liar{},
		"wrapped, claims":    wrap{liar{}},
		"claims one number":  mapped{},
		"panics":             none,
		"wrapped, panics":    wrap{none},
		"a list that panics": list{none, nil},
	} {
		check(t, what, err, api.ErrArg, -1, "")
		checkIs(t, what, err)
		named := fault.In("g", err)
		check(t, "named "+what, named, api.ErrArg, -1, "g")
		checkIs(t, "named "+what, named)
	}
}

// P2.2: Name is that of the outermost error made by In, even if it is empty.
func TestName(t *testing.T) {
	base := fault.New(api.ErrTwice, 4)
	for _, c := range []struct {
		what string
		err  error
		name string
	}{
		{"two", fault.In("g", fault.In("f", base)), "g"},
		{"three", fault.In("h", fault.In("g", fault.In("f", base))), "h"},
		{"an empty one outside", fault.In("", fault.In("f", base)), ""},
		{"an empty one inside", fault.In("g", fault.In("", base)), "g"},
		{"wrapped", fmt.Errorf("more: %w", fault.In("f", base)), "f"},
		{"wrapped twice", wrap{wrap{fault.In("f", base)}}, "f"},
		{"wrapped between", fault.In("g", wrap{fault.In("f", base)}), "g"},
		{"wrapped inside", fault.In("g", wrap{base}), "g"},
		{"the first of a list", errors.Join(base, fault.In("g", base), fault.In("f", base)), "g"},
	} {
		check(t, c.what, c.err, api.ErrTwice, 4, c.name)
		checkIs(t, c.what, c.err, api.ErrTwice)
	}
}

// P2.2: of several errors made by New the first one has the number and the position, and Is finds all.
func TestSeveral(t *testing.T) {
	a, b := fault.New(api.ErrChar, 2), fault.New(api.ErrDeep, 5)
	for _, c := range []struct {
		what string
		err  error
		e    api.Errno
		at   int
	}{
		{"joined", errors.Join(a, b), api.ErrChar, 2},
		{"joined the other way", errors.Join(b, a), api.ErrDeep, 5},
		{"with another ahead", errors.Join(errors.New("other"), b, a), api.ErrDeep, 5},
		{"with a number ahead", errors.Join(api.ErrEnd, a, b), api.ErrChar, 2},
		{"in one text", fmt.Errorf("%w, %w", wrap{a}, b), api.ErrChar, 2},
		{"a list that cannot be compared", list{nil, a, b}, api.ErrChar, 2},
	} {
		check(t, c.what, c.err, c.e, c.at, "")
		checkIs(t, c.what, c.err, api.ErrChar, api.ErrDeep)
		check(t, "named "+c.what, fault.In("g", c.err), c.e, c.at, "g")
		checkIs(t, "named "+c.what, fault.In("g", c.err), api.ErrChar, api.ErrDeep)
	}
}

// P2.3: wrapping changes neither the number nor the position, however it is done and how often.
func TestWrapping(t *testing.T) {
	ways := []func(error) error{
		func(err error) error { return fault.In("g", err) },
		func(err error) error { return fault.In("", err) },
		func(err error) error { return fmt.Errorf("more: %w", err) },
		func(err error) error { return errors.Join(err) },
		func(err error) error { return errors.Join(nil, errors.New("other"), err) },
		func(err error) error { return wrap{err} },
		func(err error) error { return list{err} },
	}
	for _, e := range numbers() {
		for _, at := range positions() {
			for i := 0; i < len(ways)*len(ways)*len(ways); i++ {
				err := fault.New(e, at)
				for n, k := i, 0; k < 3; n, k = n/len(ways), k+1 {
					err = ways[n%len(ways)](err)
				}
				if fault.Code(err) != e || fault.At(err) != at || !fault.Is(err, e) || fault.Is(err, e+1) || fault.Is(err, api.OK) {
					t.Fatalf("New(%d, %d) wrapped %d: number %d, position %d", e, at, i, fault.Code(err), fault.At(err))
				}
				if !errors.Is(err, e) {
					t.Fatalf("New(%d, %d) wrapped %d: errors.Is does not find the number", e, at, i)
				}
			}
		}
	}
}

// P2.3: many names leave the number and the position as they are, too.
func TestDeep(t *testing.T) {
	err := fault.New(api.ErrForm, 9)
	for i := range 1000 {
		err = fault.In(fmt.Sprint(i), err)
	}
	check(t, "deep", err, api.ErrForm, 9, "999")
	checkIs(t, "deep", err, api.ErrForm)
}

// P5: reading an error changes nothing, and an error that wraps it leaves it as it is.
func TestAgain(t *testing.T) {
	f := fault.New(api.ErrLong, 1)
	in := fault.In("f", f)
	fault.In("g", in)
	for range 2 {
		check(t, "New", f, api.ErrLong, 1, "")
		check(t, "In", in, api.ErrLong, 1, "f")
		checkIs(t, "In", in, api.ErrLong)
	}
}

// Errors can be held against each other and told, whatever they wrap.
func TestCompared(t *testing.T) {
	err := fault.In("g", list{fault.New(api.ErrLong, 1)})
	if !errors.Is(wrap{err}, err) {
		t.Error("errors.Is does not find the error made by In")
	}
	for _, e := range []error{err, fault.New(api.ErrLong, 1)} {
		if e.Error() == "" {
			t.Error("an error without a text")
		}
	}
}

func TestExample(t *testing.T) {
	err := fault.In("g", fault.New(api.ErrChar, 7))
	check(t, "the example", err, api.ErrChar, 7, "g")
	checkIs(t, "the example", err, api.ErrChar)
}
