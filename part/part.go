// Package part: what is done to a text: see doc/01-part.md.
package part

import "scrivenry/api"

// Check tells what is wrong with d as a delta, if anything is.
func Check(d []api.Part) api.Errno {
	_, _, e := Sizes(d)
	return e
}

// Sizes tells how many bytes the text has that d is of, and how many the one that comes of it.
func Sizes(d []api.Part) (int, int, api.Errno) {
	if e := checkParts(d); e != api.OK {
		return 0, 0, e
	}
	in, out := sums(d)
	if in > api.MaxDoc || out > api.MaxDoc {
		return 0, 0, api.ErrLarge
	}
	return in, out, api.OK
}

// Norm tells the delta that does what the parts of l do, which may stand in any order.
func Norm(l []api.Part) ([]api.Part, api.Errno) {
	if e := checkLoose(l); e != api.OK {
		return nil, e
	}
	d := gather(l)
	// What was gathered is in its form: all that Check can find is that it is too large.
	if Check(d) != api.OK {
		return nil, api.ErrLarge
	}
	return d, api.OK
}

// checkParts looks at each part of a delta, and at the one ahead of it, but not at their sums.
func checkParts(d []api.Part) api.Errno {
	if len(d) > api.MaxParts {
		return api.ErrLarge
	}
	ahead := 0
	for _, p := range d {
		if !formed(p) || width(p) == 0 || !mayFollow(ahead, p.Kind) {
			return api.ErrForm
		}
		if width(p) > api.MaxDoc {
			return api.ErrLarge
		}
		ahead = p.Kind
	}
	return api.OK
}

// checkLoose looks at each part that is to be gathered: unlike those of a delta they may
// have no bytes, and stand in any order.
func checkLoose(l []api.Part) api.Errno {
	if len(l) > api.MaxParts {
		return api.ErrLarge
	}
	for _, p := range l {
		if !formed(p) {
			return api.ErrForm
		}
		if width(p) > api.MaxDoc {
			return api.ErrLarge
		}
	}
	return api.OK
}

// formed tells if p is of a kind, and has nothing that its kind has not.
func formed(p api.Part) bool {
	switch p.Kind {
	case api.Keep, api.Cut:
		return p.N >= 0 && p.Text == ""
	case api.Put:
		return p.N == 0
	}
	return false
}

// width tells how many bytes p keeps, cuts or puts.
func width(p api.Part) int {
	if p.Kind == api.Put {
		return len(p.Text)
	}
	return p.N
}

// mayFollow tells if, in a delta, a part of a kind may stand right behind one of the kind
// ahead (0, if there is none).
func mayFollow(ahead, kind int) bool {
	return kind != ahead && !(ahead == api.Cut && kind == api.Put)
}

// sums can't overflow: by now there are at most MaxParts parts, of at most MaxDoc bytes each.
func sums(d []api.Part) (in, out int) {
	for _, p := range d {
		if p.Kind != api.Put {
			in += width(p)
		}
		if p.Kind != api.Cut {
			out += width(p)
		}
	}
	return in, out
}

// gatherer has the parts that are settled, and what was put and cut behind the last of them:
// that is settled only when something is kept, as till then more may be put ahead of the cut.
type gatherer struct {
	settled []api.Part
	text    []byte
	cut     int
}

func gather(l []api.Part) []api.Part {
	var g gatherer
	for _, p := range l {
		switch p.Kind {
		case api.Keep:
			g.keep(p.N)
		case api.Put:
			g.text = append(g.text, p.Text...)
		case api.Cut:
			g.cut += p.N
		}
	}
	g.settle()
	return g.settled
}

// keep must do nothing at all for no bytes: what stands on both sides is then at one place.
func (g *gatherer) keep(n int) {
	if n == 0 {
		return
	}
	g.settle()
	last := len(g.settled) - 1
	if last >= 0 && g.settled[last].Kind == api.Keep {
		g.settled[last].N += n
		return
	}
	g.settled = append(g.settled, api.Part{Kind: api.Keep, N: n})
}

func (g *gatherer) settle() {
	if len(g.text) > 0 {
		g.settled = append(g.settled, api.Part{Kind: api.Put, Text: string(g.text)})
	}
	if g.cut > 0 {
		g.settled = append(g.settled, api.Part{Kind: api.Cut, N: g.cut})
	}
	g.text = g.text[:0]
	g.cut = 0
}
