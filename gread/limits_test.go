package gread_test

import (
	"strings"
	"testing"

	"conch/api"
)

// terms, quotes and nons make so many declared names, quoted tokens, and rules of different nonterminals.
func terms(n int) string  { return list(n, by("T#")) }
func quotes(n int) string { return list(n, by("'#'")) }
func nons(n int) string   { return list(n, by("n# : ;")) }

// letters declares the terminals of which rights are made.
const letters = "%token a b c d e f g h "

// right returns another right side for each i, which is empty for 0.
func right(i int) string {
	text := ""
	for ; i > 0; i = (i - 1) / 8 {
		text += string(rune('a'+(i-1)%8)) + " "
	}
	return text
}

// rights joins so many right sides by bars, from a given one on.
func rights(from, n int) string {
	var all []string
	for i := range n {
		all = append(all, right(from+i))
	}
	return strings.Join(all, "| ")
}

// allowed reads sources that exceed no limit.
func allowed(t *testing.T, sources ...string) {
	t.Helper()
	for _, s := range sources {
		want, e, at := model(s)
		if e != api.OK {
			t.Errorf("%s: the model has %d at %d", cut(s), e, at)
		}
		accept(t, s, show(want))
	}
}

// P7.1: there may be MaxTerms terminals; the token that makes one more is wrong, declared or on a right side.
func TestMaxTerms(t *testing.T) {
	most := "%token " + terms(120)
	allowed(t,
		most+" %% s : ;", most+" %% s : T0 T119 s ;", "%token "+terms(119)+" %% s : 'x' ;", "%token "+terms(60)+" %token "+quotes(60)+" %% s : ;",
		"%token "+quotes(120)+" %% s : '0' '119' | ;", "%% s : "+list(120, by("'#' |"))+" '0' '1' ;", "%% "+list(120, by("n# : '#' n# ;")),
	)
	for _, s := range []string{
		most + " ^more %% s : ;", most + " ^'x' %% s : ;", most + " ^more 'x' %% s : ;", most + " %token ^more %% s : ;", most + " %start s %token ^'x' %% s : ;",
		most + " %% s : ^'x' ;", most + " %% s : T0 ^'x' | 'y' ;", most + " %% s : T0 ; s : s s s ^'x' ;", "%token " + terms(119) + " %% s : 'x' ^'y' ;",
		"%token " + quotes(120) + " %% s : '0' | '119' s | ; t : s ^'x' ;", "%% s : " + list(120, by("'#' |")) + " ^'x' ;",
		"%% s : " + list(120, by("'#' |")) + " '0' s ^'x' ;", "%% " + list(60, by("n# : '#' '#' '#x' ;")) + " s : '0' | ^'x' | 'y' ;",
	} {
		marked(t, s, many)
	}
}

// P7.1: there may be MaxNons nonterminals; the name ahead of a colon that makes one more is wrong.
func TestMaxNons(t *testing.T) {
	most := "%% " + nons(120)
	allowed(t, most, most+" n0 : n1 ; n119 : n118 ;", "%token "+terms(120)+most, "%start n119"+most)
	for _, s := range []string{
		most + " ^more : ;", most + " n0 : more ; ^more : ;", most + " n7 : n8 ; ^more : ; again : ;", most + " ^more : ; more : ;", most + " ^n120 : n120 ;",
		"%start more " + most + " ^more : 'x' ;", "%token " + terms(120) + most + " ^n120 : n0 ;",
	} {
		marked(t, s, many)
	}
}

// P7.1: there may be MaxRules rules; the beginning of the right side that makes one more is wrong.
func TestMaxRules(t *testing.T) {
	half := letters + "%% s : " + rights(0, 150)
	most := letters + "%% s : " + rights(1, 300) // the empty one is left
	allowed(t,
		most+";", half+"; t : "+rights(0, 150)+";", half+"; s : "+rights(150, 150)+";", letters+"%% s : "+rights(0, 299)+"; t : ;",
		"%% "+nons(120)+list(90, by("n# : n# ;"))+list(90, by("n# : n0 n# ;")),
	)
	for _, s := range []string{
		most + "| ^a b c d ;", most + "| ^s ;", most + "| ^'x' ;", most + "| ^;", most + "| ^| s ;", most + "| ^| ;", most + "|^s|;",
		most + "; s : ^s ;", most + "; s : ^;", most + "; s : ^| s ;", most + "; t : ^a ;", most + "; t : ^; u : ;", most + "; t : ^'x' 'y' ;",
		most + "; t : ^t t t t t t t t t ;", half + "; t : " + rights(0, 150) + "| ^'x' | 'y' ;", half + "; s : " + rights(150, 150) + "| ^s | s s ;",
		"%% " + nons(120) + list(90, by("n# : n# ;")) + list(90, by("n# : n0 n# ;")) + "n0 : ^n1 ;",
	} {
		marked(t, s, many)
	}
}

// P7.1: there may be MaxRight symbols on a right side; the next one is wrong.
func TestMaxRight(t *testing.T) {
	const seven, eight = "s s s s s s s", "s s s s s s s s"
	allowed(t,
		"%% s : "+eight+" ;", "%% s : "+quotes(8)+" ;", "%% s : | 'x' "+seven+" | "+eight+" ;", "%% s : ; t : "+eight+" ;",
		"%token "+terms(8)+" %% s : "+terms(8)+" ;", "%% s : "+eight+" | "+quotes(8)+" | "+seven+" 'x' ; t : "+eight+" ;",
	)
	for _, s := range []string{
		"%% s : " + eight + " ^s ;", "%% s : " + eight + " ^'x' ;", "%% s : " + quotes(8) + " ^'0' ;", "%% s : " + quotes(8) + " ^s s s ;",
		"%% s : | " + eight + " ^s ;", "%% s : " + eight + " | " + seven + " 'x' ^'y' | s ;", "%% s : " + eight + " ; t : " + seven + " t ^t ;",
		"%token A %% s : " + eight + " ^A ;", "%% s : " + eight + " ^s | " + eight + " s ;", "%% s : 'x' " + seven + " ^'x' ; t : 'x' " + eight + " 'x' ;",
	} {
		marked(t, s, many)
	}
}

// P7.1: all limits can be reached in one source.
func TestAllLimits(t *testing.T) {
	s := letters + terms(111) + " %start n119 %% " + nons(119) + " n119 : " + rights(1, 180) + "| a 'x' n0 n118 a 'x' n119 n119 ;"
	allowed(t, s)
	last := strings.LastIndex(s, ";")
	marked(t, s[:last]+"^'y' ;", many)
	marked(t, s[:last]+"| ^;", many)
	marked(t, s+" ^more : ;", many)
	marked(t, strings.Replace(s, "'x' n0", "'x' ^'y' n0", 1), many)
}

// P7.1: of several errors at one token the one that the chapter names first is returned.
func TestSameToken(t *testing.T) {
	const eight = "s s s s s s s s"
	declared, rules := "%token "+terms(120), letters+"%% s : "+rights(0, 300)
	for _, x := range []struct {
		s string
		e api.Errno
	}{
		// a terminal too many would be wrong, but it is not a new one
		{declared + " ^T0 %% s : ;", twice}, {declared + " %token ^T119 more %% s : ;", twice},
		// a nonterminal too many, which is a terminal
		{"%token A %% " + nons(120) + " ^A : ;", twice},
		// a rule too many would be wrong, but it is not a new one
		{rules + "| ^a ;", twice}, {rules + "| ^;", twice}, {rules + "| ^| s ;", twice}, {rules + "; s : ^a a | s ;", twice},
		// a rule too many, which begins with an unknown name
		{rules + "| ^x ;", none}, {rules + "| ^x s ;", none}, {rules + "; t : ^x | ;", none},
		// a rule too many, in which an unknown name comes later
		{rules + "| ^s x ;", many}, {rules + "| ^'x' x ;", many},
		// a symbol too many, which is unknown, and one ahead of such a one
		{"%% s : " + eight + " ^x ;", none}, {"%% s : " + eight + " ^s x ;", many},
		// a symbol too many, which is a terminal too many
		{declared + " %% s : " + eight + " ^'x' ;", many},
		// a right side that is repeated and has an unknown name
		{"%% s : ^x | x ;", none}, {"%% s : s ^x | s x ;", none},
	} {
		marked(t, x.s, x.e)
	}
}
