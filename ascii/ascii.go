// Package ascii is texts of ASCII: see DOC.md, chapter 1.
package ascii

import (
	"slices"
	"strconv"
	"strings"
)

const (
	// marks are the bytes of a token that are neither letters nor digits.
	marks = "!#$%&'*+-.^_|~`"

	// maxDigits is the most that fit an int whatever they are.
	maxDigits = 18
)

// Lower makes small letters.
func Lower(s string) (low string) {
	b := []byte(s)
	for i, c := range b {
		b[i] = lower(c)
	}
	return string(b)
}

// Same compares without case.
func Same(a, b string) (same bool) {
	if len(a) != len(b) {
		return false
	}
	for i := range len(a) {
		if lower(a[i]) != lower(b[i]) {
			return false
		}
	}
	return true
}

// Any tells whether s is one of them.
func Any(s string, of ...string) (found bool) {
	return oneOf(s, of...)
}

// Token tells whether s is one.
func Token(s string) (ok bool) {
	for i := range len(s) {
		if !inToken(s[i]) {
			return false
		}
	}
	return s != ""
}

// Trim cuts blanks off.
func Trim(s string) (rest string) {
	rest = s
	for rest != "" && oneOf(rest[0], ' ', '\t') {
		rest = rest[1:]
	}
	for rest != "" && oneOf(rest[len(rest)-1], ' ', '\t') {
		rest = rest[:len(rest)-1]
	}
	return rest
}

// Blanks cuts at blanks.
func Blanks(s string) (words []string) {
	start := 0
	for i := range len(s) {
		if !oneOf(s[i], '\t', '\n', '\f', '\r', ' ') {
			continue
		}
		if start < i {
			words = append(words, s[start:i])
		}
		start = i + 1
	}
	if start < len(s) {
		words = append(words, s[start:])
	}
	return words
}

// Split cuts at a byte.
func Split(s string, sep byte) (parts []string) {
	for {
		i := strings.IndexByte(s, sep)
		if i < 0 {
			return append(parts, s)
		}
		parts = append(parts, s[:i])
		s = s[i+1:]
	}
}

// Number reads a number.
func Number(s string, max int) (n int, ok bool) {
	if s == "" || len(s) > min(max, maxDigits) {
		return 0, false
	}
	if s[0] == '0' && s != "0" {
		return 0, false
	}
	for i := range len(s) {
		if !digit(s[i]) {
			return 0, false
		}
		n = 10*n + int(s[i]-'0')
	}
	return n, true
}

// Decimal writes one.
func Decimal(n int) (s string) {
	return strconv.Itoa(n)
}

// oneOf tells whether x is one of them.
func oneOf[T comparable](x T, of ...T) (found bool) {
	return slices.Contains(of, x)
}

// lower is c, or its small letter.
func lower(c byte) (low byte) {
	if 'A' <= c && c <= 'Z' {
		return c - 'A' + 'a'
	}
	return c
}

func letter(c byte) (ok bool) {
	c = lower(c)
	return 'a' <= c && c <= 'z'
}

func digit(c byte) (ok bool) {
	return '0' <= c && c <= '9'
}

// inToken tells whether c may stand in a token.
func inToken(c byte) (ok bool) {
	return letter(c) || digit(c) || strings.IndexByte(marks, c) >= 0
}
