// Package char is layer 1: classes of bytes, and the forms of strings that
// follow from them. See doc/01-char.md.
package char

import "conch/api"

// Class returns the class of a byte.
func Class(c byte) int {
	switch {
	case c == 0:
		return api.CNone
	case c == ' ', c == '\t':
		return api.CBlank
	case c == '\n':
		return api.CLine
	case c >= '0' && c <= '9':
		return api.CDigit
	case c >= 'a' && c <= 'z':
		fallthrough
	case c >= 'A' && c <= 'Z':
		fallthrough
	case c == '_':
		return api.CName
	case c == '&', c == '|', c == ';':
		fallthrough
	case c == '<', c == '>':
		fallthrough
	case c == '(', c == ')':
		return api.CMeta
	case c == '\'', c == '"':
		fallthrough
	case c == '\\', c == '`':
		return api.CQuote
	case c == '$':
		return api.CDollar
	}
	return api.COther
}

// Name reports whether s can be the name of a variable.
func Name(s string) bool {
	return every(s, inName) && Class(s[0]) == api.CName
}

// Digits reports whether s consists of digits, and has at least one.
func Digits(s string) bool {
	return every(s, isDigit)
}

// Plain reports whether s can stand in a command as a word without any quotes.
func Plain(s string) bool {
	return every(s, inPlain) && s[0] != '#'
}

// Special reports whether c is the name of a special parameter (0 to 9 excepted).
func Special(c byte) bool {
	switch c {
	case '@', '*', '#', '?', '-', '$', '!':
		return true
	}
	return false
}

// Assign returns the index of the = that ends the name of an assignment, or -1.
func Assign(s string) int {
	for i, r := range s {
		if r != '=' {
			continue
		}
		if Name(s[:i]) {
			return i
		}
		return -1
	}
	return -1
}

// every reports whether s has bytes, and the classes of all of them fit.
func every(s string, fits func(class int) bool) bool {
	for _, r := range s {
		if !fits(classOf(r)) {
			return false
		}
	}
	return s != ""
}

// classOf needs no decoding of what is not ASCII: all bytes of such a rune,
// and each byte that is not UTF-8, have the class COther.
func classOf(r rune) int {
	if r > 127 {
		return api.COther
	}
	return Class(byte(r))
}

func inName(class int) bool {
	return class == api.CName || class == api.CDigit
}

func isDigit(class int) bool {
	return class == api.CDigit
}

func inPlain(class int) bool {
	return class == api.CDigit || class == api.CName || class == api.COther
}
