package gread_test

import (
	"slices"
	"strings"
	"testing"

	"conch/api"
	"conch/gread"
	"conch/gtok"
)

// sequences calls f for all sequences of at most most pieces, each followed by a blank.
func sequences(pieces []string, most int, f func(s string)) {
	var add func(s string, left int)
	add = func(s string, left int) {
		f(s)
		if left == 0 {
			return
		}
		for _, p := range pieces {
			add(s+p+" ", left-1)
		}
	}
	add("", most)
}

// P7.1: of several errors the one with the smallest offset is returned.
func TestSmallestOffset(t *testing.T) {
	for _, x := range []struct {
		s string
		e api.Errno
	}{
		// in the declarations
		{"%token A ^A B B %% s : ;", twice}, {"%token A ^A %start x %% s : ;", twice}, {"%start ^x %token A A %% s : ;", none},
		{"%start ^x %start s %% s : ;", none}, {"%start s ^%start x %% s : ;", twice}, {"%start s ^%start x %token A A %% s : ;", twice},
		{"%token " + terms(120) + " ^more T0 %% s : ;", many}, {"%token T0 ^T0 " + terms(121) + " %% s : ;", twice},
		// in the declarations and in the rules
		{"%token A ^A %% A : x | x ;", twice}, {"%token A %start ^x %% A : ;", none}, {"%start ^t %% s : | ;", none}, {"%token A ^A %% s : | ;", twice},
		{"%start s ^%start s %% s : x ;", twice}, {"%token " + terms(120) + " ^more %% s : x | | ;", many},
		// in the rules
		{"%token A %% s : ^x ; A : ;", none}, {"%token A %% ^A : x ;", twice}, {"%token A %% s : | ^; A : ;", twice}, {"%token A %% ^A : | ;", twice},
		{"%% s : s | ^s | x ;", twice}, {"%% s : s | s ^x | s ;", none}, {"%% s : | ^| x ;", twice}, {"%% s : ^x | | ;", none},
		{"%% s : ; t : ^u ; s : ;", none}, {"%% s : ; s : ^; t : u ;", twice},
		// on one right side
		{"%% s : ^x y ;", none}, {"%% s : s ^x s s s s s s s s ;", none}, {"%% s : s s s s s s s s ^s x ;", many},
		// limits ahead of something else, and behind it
		{"%% s : s s s s s s s s ^s | s s s s s s s s s ;", many}, {"%% s : s s s s s s s s ^s | x | | ;", many}, {"%% s : | ^| s s s s s s s s s ;", twice},
		{"%% " + nons(120) + " ^more : x ;", many}, {"%% " + nons(120) + " n0 : ^x ; more : ;", none}, {"%% " + nons(120) + " n0 : ^; more : ;", twice},
		{letters + "%% s : " + rights(0, 300) + "| ^s ; t : x ;", many}, {letters + "%% s : " + rights(0, 299) + "| ^x | s | s s ;", none},
	} {
		marked(t, x.s, x.e)
	}
}

// P7.1: an error of the form is returned before any of the others, even if it stands behind them.
func TestFormFirst(t *testing.T) {
	for _, x := range []struct {
		s string
		e api.Errno
	}{
		{"%token A A ^", ended}, {"%token A A %% ^", ended}, {"%token A A %% s : ^", ended}, {"%token A A ^; %% s : ;", token}, {"%token A A %% s ^;", token},
		{"%token A A %start ^'x' %% s : ;", token}, {"%token A A %token ^%% s : ;", token},
		{"%start x ^y %% s : ;", token}, {"%start x %% s : ^: ;", token}, {"%start x %% s : ; ^;", token}, {"%start s %start s ^: %% s : ;", token},
		{"%start s %start s %% s : ; t ^", ended}, {"%token A %% A : ; ^|", token}, {"%token A %% A : ^", ended}, {"%% s : x ; ^%%", token}, {"%% s : x | ^", ended},
		{"%% s : | ; ^'x'", token}, {"%% s : | | ^%start s ;", token}, {"%% s : s | s ; t ^;", token}, {"%% s : s s s s s s s s s ^%token ;", token},
		{"%token " + terms(121) + " ^: %% s : ;", token}, {"%% " + nons(121) + " ^;", token}, {letters + "%% s : " + rights(0, 301) + "^", ended},
	} {
		marked(t, x.s, x.e)
	}
}

// P7.1, P7.2: all short sequences of tokens, alone and behind and ahead of others, are as the model has them.
func TestShort(t *testing.T) {
	words := []string{"A", "s", "'x'", ":", "|", ";", "%%", "%token", "%start"}
	sequences(words, 5, func(s string) { agree(t, s) })
	for _, x := range []struct{ ahead, behind string }{
		{"%token A ", "%% s : ;"}, {"%token A 'x' ", "%% A : 'x' ;"}, {"%start s ", "%% s : ; t : ;"}, {"%% s : ", ";"}, {"%% s : 'x' | ", "; A : ;"},
		{"%token A %% s : A | ", "; t : s ;"}, {"%start A %% s : ; ", ""},
	} {
		sequences(words, 4, func(s string) { agree(t, x.ahead+s+x.behind) })
	}
}

// P7.1, P7.2: right sides of all kinds, one behind the other, are as the model has them.
func TestRightSides(t *testing.T) {
	words := []string{"s", "t", "A", "x", "'x'", "'y'", "|", "; s :", "; t :"}
	sequences(words, 5, func(s string) { agree(t, "%token A 'y' %% s : "+s+";") })
}

// P7.1, P7.2: declarations and rules of all kinds, right and wrong ones, are as the model has them.
func TestPieces(t *testing.T) {
	const nine = "s s s s s s s s s"
	heads := []string{"%token A", "%token B 'x'", "%token 'x' A", "%start s", "%start t", "%start %%", "%start A"}
	rules := []string{"s : A | 'x' t ;", "t : s B | ;", "s : 'y' | ;", "A : 's' ;", "s : " + nine + " ;", "t : 'y' s | 'y' t | s : ;", "u : t 'x' |"}
	sequences(heads, 3, func(decls string) {
		sequences(rules, 3, func(s string) { agree(t, decls+"%% "+s) })
	})
}

// P7.1, P7.2: long sources that a simple rule strews with errors are as the model has them.
func TestStrewn(t *testing.T) {
	words := []string{"A", "B", "s", "t", "u", "x", "'x'", "'y'", "|", "|", "; s :", "; t :", "; u :", "'z' |", "s 'x'", "t u"}
	state := uint32(7)
	next := func(n int) int {
		state = state*1664525 + 1013904223
		return int(state>>8) % n
	}
	for range 20000 {
		s := "%token A B 'y' %start " + []string{"s", "t", "u"}[next(3)] + " %% u : B ; s :"
		for range 1 + next(40) {
			s += " " + words[next(len(words))]
		}
		agree(t, s+" ;")
	}
}

// P7.1: what stands between the tokens changes no grammar, and of an error only its offset.
func TestGaps(t *testing.T) {
	for _, s := range []string{
		"%token A 'x' %start t %% s : A t | ; t : s 'x' | 'y' ;", "%token A A %% s : ;", "%% s : x ;", "%% s : | | ;", "%% s : : ;", "%% s :", "%start t %% s : ;",
	} {
		want, e, at := model(s)
		for _, gap := range []string{"\n", "\t ", " /* a : */ ", "/**/"} {
			wide := strings.ReplaceAll(s, " ", gap)
			if e == api.OK {
				accept(t, wide, show(want))
				continue
			}
			refuse(t, wide, e, at+strings.Count(s[:at], " ")*(len(gap)-1))
		}
	}
}

// P7.1: quoted tokens and names may be as long as a name can be.
func TestMaxName(t *testing.T) {
	a, b := strings.Repeat("a", api.MaxName), strings.Repeat("b", api.MaxName)
	q := "'" + a[2:] + "'"
	accept(t, "%token "+a+" %start "+b+" %% "+b+" : "+a+" "+b+" "+q+" ;", `["`+a+`" "`+q+`"] ["`+b+`"] 3 3[1 3 2]`)
	marked(t, "%% s : ^"+a+" ;", none)
	marked(t, "%% s : "+q+" | ^"+q+" ;", twice)
	refuse(t, "%% s : "+a+"a ;", api.ErrLong, 7)
}

// P5, P4: the same source yields the same grammar, whatever was done to an earlier one, and no two of its lists share memory.
func TestNoSharing(t *testing.T) {
	const s = "%token A %% s : A 'x' | t | ; t : s s s | A ;"
	want, _, _ := model(s)
	for range 3 {
		accept(t, s, show(want))
		g, _ := gread.Parse(s)
		for i := range g.Rules {
			_ = append(g.Rules[i].Right, -1)
			for k := range g.Rules[i].Right {
				g.Rules[i].Right[k] -= 100
			}
		}
		_, _ = append(g.Terms, "?"), append(g.Nons, "?")
		for i, r := range g.Rules {
			for k, n := range r.Right {
				if n != want.Rules[i].Right[k]-100 {
					t.Errorf("right sides share memory: %s", show(g))
				}
			}
		}
		if !slices.Equal(g.Terms, want.Terms) || !slices.Equal(g.Nons, want.Nons) {
			t.Errorf("names share memory: %s", show(g))
		}
		clear(g.Terms)
		clear(g.Nons)
	}
}

// P1, P7.1: any bytes end in a grammar or in an error; that of the tokens is the one that gtok returns.
func TestAnyBytes(t *testing.T) {
	for c := range 256 {
		for _, x := range [][2]string{{"", ""}, {"%% s : ", " ;"}, {"%token A", " %% s : ;"}, {"%% s : '", "' ;"}, {"%start s", "s %% s : ;"}, {"%% s : ;", ""}} {
			s := x[0] + string([]byte{byte(c)}) + x[1]
			agree(t, s)
			if _, err := gtok.All(s); err != nil {
				if _, got := gread.Parse(s); got != err {
					t.Errorf("%s is %v, want the error of gtok", cut(s), got)
				}
			}
		}
	}
}
