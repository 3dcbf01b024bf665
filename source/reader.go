package source

import (
	"strings"

	"parapet/ascii"
)

const (
	letters = "ABCDEFGHIJKLMNOPQRSTUVWXYZabcdefghijklmnopqrstuvwxyz"
	digits  = "0123456789"

	inScheme = letters + digits + "+-."
	inLabel  = letters + digits + "-_"
	inHost   = inLabel + ".*"

	// notInPath are the bytes from 33 to 126 that no path has.
	notInPath = "?#;,"

	// maxDigits is how many digits a port has at most.
	maxDigits = 5
)

// rest is what is still to be read.
type rest string

// next takes s, if it comes next.
func (r *rest) next(s string) bool {
	after, ok := strings.CutPrefix(string(*r), s)
	*r = rest(after)
	return ok
}

// take takes the bytes at the beginning that are among these.
func (r *rest) take(of string) string {
	s := string(*r)
	after := strings.TrimLeft(s, of)
	*r = rest(after)
	return s[:len(s)-len(after)]
}

// end tells whether nothing is left.
func (r *rest) end() bool { return *r == "" }

// reader reads the parts of an expression, one after the other.
type reader struct {
	rest
	e Expr
}

func newReader(s string) *reader { return &reader{rest: rest(s)} }

// scheme reads a scheme and the mark behind it. It takes neither, if it doesn't
// find both.
func (r *reader) scheme(mark string) bool {
	before := r.rest
	s := r.take(inScheme)
	if s == "" || !among(s[:1], letters) || !r.next(mark) {
		r.rest = before
		return false
	}
	r.e.Scheme = ascii.Lower(s)
	return true
}

// host reads a host pattern.
func (r *reader) host() bool {
	s := r.take(inHost)
	r.e.Host = ascii.Lower(s)
	return s == all || labels(strings.TrimPrefix(s, within))
}

// port reads a port with its mark, if there is one.
func (r *reader) port() bool {
	if !r.next(":") {
		return true
	}
	if r.next(all) {
		r.e.Port = all
		return true
	}
	r.e.Port = r.take(digits)
	return r.e.Port != "" && len(r.e.Port) <= maxDigits
}

// path reads all that is left, which is a path or nothing.
func (r *reader) path() bool {
	if r.end() {
		return true
	}
	r.e.Path = string(r.rest)
	return r.next("/") && inPath(string(r.rest))
}

// expr is what was read, as an expression of this kind.
func (r *reader) expr(kind int) Expr {
	e := r.e
	e.Kind = kind
	return e
}

// quoted tells whether s stands between two quotation marks.
func quoted(s string) bool {
	return len(s) >= 2 && s[0] == '\'' && s[len(s)-1] == '\''
}

// labels tells whether s is one or more, with dots between them.
func labels(s string) bool {
	for _, label := range ascii.Split(s, '.') {
		if label == "" || !among(label, inLabel) {
			return false
		}
	}
	return true
}

// among tells whether all bytes of s are among these.
func among(s, of string) bool {
	return strings.TrimLeft(s, of) == ""
}

// inPath tells whether all bytes of s may stand in a path.
func inPath(s string) bool {
	for i := range len(s) {
		if c := s[i]; c < 33 || c > 126 || strings.IndexByte(notInPath, c) >= 0 {
			return false
		}
	}
	return true
}
