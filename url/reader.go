package url

import (
	"strings"

	"parapet/api"
	"parapet/ascii"
	"parapet/host"
	"parapet/percent"
)

// rest is what is still to be read.
type rest string

// take takes what stands ahead of the first of these bytes, or all.
func (r *rest) take(ends string) string {
	s := string(*r)
	i := strings.IndexAny(s, ends)
	if i < 0 {
		i = len(s)
	}
	*r = rest(s[i:])
	return s[:i]
}

// next takes one byte, if it is c.
func (r *rest) next(c byte) bool {
	s := string(*r)
	if s == "" || s[0] != c {
		return false
	}
	*r = rest(s[1:])
	return true
}

// skip takes the bytes at the beginning that are among these.
func (r *rest) skip(of string) {
	*r = rest(strings.TrimLeft(string(*r), of))
}

// reader reads a URL from its beginning to its end, part by part.
type reader struct {
	rest
	u api.URL
}

// prepare is s, which is valid UTF-8, without what never counts.
func prepare(s string) rest {
	s = strings.TrimFunc(s, func(c rune) bool { return c <= ' ' })
	return rest(strings.Map(withoutBreaks, s))
}

// withoutBreaks is c, or nothing for a tab or a line's end.
func withoutBreaks(c rune) rune {
	switch c {
	case '\t', '\n', '\r':
		return -1
	}
	return c
}

// scheme reads the scheme and all slashes behind it. Its letters need no look
// of their own: what has others is none of the schemes.
func (r *reader) scheme() bool {
	r.u.Scheme = ascii.Lower(r.take(":"))
	if _, ok := Default(r.u.Scheme); !ok || !r.next(':') {
		return false
	}
	r.skip(slashes)
	return true
}

// authority reads the user information, the host and the port.
func (r *reader) authority() bool {
	place := r.take(authorityEnds)
	if i := strings.LastIndexByte(place, '@'); i >= 0 {
		r.user(place[:i])
		place = place[i+1:]
	}
	name, digits, _ := strings.Cut(place, ":")
	h, e := host.Parse(name)
	port, ok := portOf(r.u.Scheme, digits)
	r.u.Host, r.u.Port = h, port
	return ok && e == api.OK
}

// user fills in the user information.
func (r *reader) user(info string) {
	user, pass, _ := strings.Cut(info, ":")
	r.u.User = percent.Encode(user, percent.User)
	r.u.Pass = percent.Encode(pass, percent.User)
}

// path reads the path. The slash that it begins with, if it is not empty,
// divides nothing.
func (r *reader) path() {
	p := strings.ReplaceAll(r.take(pathEnds), `\`, "/")
	l := resolve(ascii.Split(strings.TrimPrefix(p, "/"), '/'))
	r.u.Path = "/" + strings.Join(l, "/")
}

// query reads the query, if there is one.
func (r *reader) query() {
	if r.next('?') {
		r.u.HasQ = true
		r.u.Query = percent.Encode(r.take("#"), percent.Query)
	}
}

// fragment reads the fragment, if there is one.
func (r *reader) fragment() {
	if r.next('#') {
		r.u.HasF = true
		r.u.Frag = percent.Encode(string(r.rest), percent.Frag)
	}
}

// portOf is the Port of a URL of this scheme with these digits. Zeros ahead
// are cut off first: there may be any number of them.
func portOf(scheme, digits string) (port int, ok bool) {
	if digits == "" {
		return own, true
	}
	if digits = strings.TrimLeft(digits, "0"); digits != "" {
		port, ok = ascii.Number(digits, portDigits)
		if !ok || port > maxPort {
			return 0, false
		}
	}
	if usual, _ := Default(scheme); port == usual {
		return own, true
	}
	return port, true
}

// resolve is the segments without dots, encoded.
func resolve(segments []string) (l []string) {
	last := len(segments) - 1
	for i, s := range segments {
		n := dots(s)
		if n == 0 {
			l = append(l, percent.Encode(s, percent.Path))
			continue
		}
		if n == 2 && len(l) > 0 {
			l = l[:len(l)-1]
		}
		if i == last {
			l = append(l, "")
		}
	}
	return l
}

// dots is 1 for a dot segment, 2 for a double-dot segment, and 0 for any other.
func dots(segment string) int {
	switch percent.Decode(segment) {
	case ".":
		return 1
	case "..":
		return 2
	}
	return 0
}
