// Package apply: deltas, done: see doc/02-apply.md.
package apply

import (
	"strings"

	"scrivenry/api"
	"scrivenry/part"
)

// Fits tells what is wrong with d as a delta of a text of n bytes, if anything is.
func Fits(d []api.Part, n int) api.Errno {
	in, _, e := part.Sizes(d)
	if e != api.OK {
		return e
	}
	if in != n {
		return api.ErrLen
	}
	return api.OK
}

// Do tells the text that d makes of s.
func Do(d []api.Part, s string) (string, api.Errno) {
	if e := Fits(d, len(s)); e != api.OK {
		return "", e
	}
	// A builder, also where all is kept: the answer must not be s's own memory.
	var b strings.Builder
	for _, p := range d {
		switch p.Kind {
		case api.Keep:
			b.WriteString(s[:p.N])
			s = s[p.N:]
		case api.Put:
			b.WriteString(p.Text)
		case api.Cut:
			s = s[p.N:]
		}
	}
	return b.String(), api.OK
}
