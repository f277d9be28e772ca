package part

import (
	"math"
	"slices"
	"strings"
	"testing"
	"unsafe"

	"scrivenry/api"
)

func keep(n int) api.Part { return api.Part{Kind: api.Keep, N: n} }

func cut(n int) api.Part { return api.Part{Kind: api.Cut, N: n} }

func put(s string) api.Part { return api.Part{Kind: api.Put, Text: s} }

func parts(l ...api.Part) []api.Part { return l }

func bytesOf(n int) string { return strings.Repeat("x", n) }

func times(n int, l ...api.Part) []api.Part { return slices.Repeat(l, n) }

// wrongParts are wrong wherever they stand, in a delta and among parts in any order.
func wrongParts() []api.Part {
	return parts(
		api.Part{},
		api.Part{Kind: -1, N: 1},
		api.Part{Kind: 0, N: 1},
		api.Part{Kind: 4, N: 1},
		api.Part{Kind: 4, Text: "a"},
		api.Part{Kind: math.MinInt, N: 1},
		api.Part{Kind: math.MaxInt, N: 1},
		keep(-1), keep(math.MinInt), cut(-1), cut(math.MinInt),
		api.Part{Kind: api.Keep, N: 1, Text: "a"},
		api.Part{Kind: api.Cut, N: 1, Text: "a"},
		api.Part{Kind: api.Keep, Text: "a"},
		api.Part{Kind: api.Cut, Text: "a"},
		api.Part{Kind: api.Put, N: 1, Text: "a"},
		api.Part{Kind: api.Put, N: -1, Text: "a"},
		api.Part{Kind: api.Put, N: 1},
		api.Part{Kind: api.Put, N: math.MaxInt, Text: "a"},
		// Of one part the error of its form is told ahead of that of its size.
		api.Part{Kind: 4, N: 501},
		api.Part{Kind: 4, Text: bytesOf(501)},
		api.Part{Kind: api.Keep, N: 501, Text: "a"},
		api.Part{Kind: api.Cut, N: 501, Text: "a"},
		api.Part{Kind: api.Put, N: 501, Text: bytesOf(501)},
		api.Part{Kind: api.Keep, N: -1, Text: bytesOf(501)},
	)
}

type checkCase struct {
	name string
	d    []api.Part
	want api.Errno
}

func checkCases() []checkCase {
	return []checkCase{
		{"nil", nil, api.OK},
		{"empty", parts(), api.OK},
		{"keep", parts(keep(1)), api.OK},
		{"put", parts(put("a")), api.OK},
		{"cut", parts(cut(1)), api.OK},
		{"put, cut", parts(put("a"), cut(1)), api.OK},
		{"all kinds", parts(put("a"), cut(1), keep(1), cut(2), keep(2), put("b"), keep(3), put("c"), cut(3)), api.OK},
		{"any bytes", parts(put("\x00\xff\n ")), api.OK},

		{"keep 0", parts(keep(0)), api.ErrForm},
		{"cut 0", parts(cut(0)), api.ErrForm},
		{"put nothing", parts(put("")), api.ErrForm},
		{"keep, keep", parts(keep(1), keep(1)), api.ErrForm},
		{"put, put", parts(put("a"), put("b")), api.ErrForm},
		{"cut, cut", parts(cut(1), cut(1)), api.ErrForm},
		{"cut, put", parts(cut(1), put("a")), api.ErrForm},
		{"cut, put, far behind", parts(keep(1), put("a"), cut(1), keep(1), cut(1), put("a")), api.ErrForm},

		{"keep 500", parts(keep(500)), api.OK},
		{"cut 500", parts(cut(500)), api.OK},
		{"put 500", parts(put(bytesOf(500))), api.OK},
		{"put 500, cut 500", parts(put(bytesOf(500)), cut(500)), api.OK},
		{"keep 501", parts(keep(501)), api.ErrLarge},
		{"cut 501", parts(cut(501)), api.ErrLarge},
		{"put 501", parts(put(bytesOf(501))), api.ErrLarge},
		{"keep most", parts(keep(math.MaxInt)), api.ErrLarge},
		{"cut most", parts(cut(math.MaxInt)), api.ErrLarge},
		{"keep most, cut most", parts(keep(math.MaxInt), cut(math.MaxInt)), api.ErrLarge},

		{"of 500", parts(keep(250), cut(250)), api.OK},
		{"of 501", parts(keep(250), cut(251)), api.ErrLarge},
		{"to 500", parts(keep(250), put(bytesOf(250))), api.OK},
		{"to 501", parts(keep(250), put(bytesOf(251))), api.ErrLarge},
		{"of 501, by many", parts(keep(250), cut(1), keep(250)), api.ErrLarge},
		{"to 501, by many", parts(keep(250), put("a"), keep(250)), api.ErrLarge},

		{"1600, too large as one", times(800, put("a"), keep(1)), api.ErrLarge},
		{"1600, wrong at the end", append(times(799, put("a"), keep(1)), put("a"), put("b")), api.ErrForm},
		{"1601, wrong", make([]api.Part, 1601), api.ErrLarge},
		{"1600, wrong", make([]api.Part, 1600), api.ErrForm},

		{"large ahead of wrong", parts(keep(501), keep(0)), api.ErrLarge},
		{"wrong ahead of large", parts(keep(0), keep(501)), api.ErrForm},
		{"wrong place and large", parts(keep(1), keep(501)), api.ErrForm},
		{"cut, large put", parts(cut(1), put(bytesOf(501))), api.ErrForm},
		{"large sums ahead of wrong", parts(keep(500), cut(500), keep(0)), api.ErrForm},
		{"large sums ahead of wrong place", parts(keep(500), cut(500), put("a")), api.ErrForm},
	}
}

func TestCheck(t *testing.T) {
	for _, x := range checkCases() {
		if e := Check(x.d); e != x.want {
			t.Errorf("%s: %d, not %d", x.name, e, x.want)
		}
	}
}

func TestCheckWrongParts(t *testing.T) {
	for _, p := range wrongParts() {
		for _, d := range [][]api.Part{parts(p), parts(keep(1), p), parts(put("a"), cut(1), p, keep(501))} {
			if e := Check(d); e != api.ErrForm {
				t.Errorf("%.40v: %d", d, e)
			}
		}
	}
}

func TestSizes(t *testing.T) {
	for _, x := range []struct {
		d       []api.Part
		in, out int
	}{
		{nil, 0, 0},
		{parts(keep(2)), 2, 2},
		{parts(put("abc")), 0, 3},
		{parts(cut(4)), 4, 0},
		{parts(keep(2), put("abc"), cut(1)), 3, 5},
		{parts(put("ab"), cut(7), keep(11), put("c"), keep(13), cut(17)), 48, 27},
		{parts(put(bytesOf(500)), cut(500)), 500, 500},
		{parts(put("\xc3\xa9")), 0, 2},
	} {
		if in, out, e := Sizes(x.d); in != x.in || out != x.out || e != api.OK {
			t.Errorf("%.40v: %d %d %d", x.d, in, out, e)
		}
	}
}

func TestSizesHasChecksError(t *testing.T) {
	for _, x := range checkCases() {
		in, out, e := Sizes(x.d)
		if e != x.want {
			t.Errorf("%s: %d, not %d", x.name, e, x.want)
		}
		if e != api.OK && (in != 0 || out != 0) {
			t.Errorf("%s: %d %d beside an error", x.name, in, out)
		}
	}
}

func TestNorm(t *testing.T) {
	for _, x := range []struct{ l, want []api.Part }{
		{nil, nil},
		{parts(keep(0), put(""), cut(0)), nil},
		{parts(keep(2), put("a"), cut(1)), parts(keep(2), put("a"), cut(1))},
		{parts(cut(1), put("a"), cut(2)), parts(put("a"), cut(3))},
		{parts(cut(1), put("a")), parts(put("a"), cut(1))},
		{parts(put("a"), put("b"), put("c")), parts(put("abc"))},
		{parts(cut(1), cut(2), cut(3)), parts(cut(6))},
		{parts(keep(1), keep(2), keep(3)), parts(keep(6))},
		{parts(keep(1), put(""), keep(2), cut(0), keep(3)), parts(keep(6))},
		{parts(cut(1), keep(0), put("a"), keep(0), cut(1), put("b")), parts(put("ab"), cut(2))},
		{parts(cut(1), put("a"), keep(1), cut(2), put("b"), keep(2), cut(3), put("c")),
			parts(put("a"), cut(1), keep(1), put("b"), cut(2), keep(2), put("c"), cut(3))},
		{parts(put("a"), keep(1), put("b"), keep(1), put("c")), parts(put("a"), keep(1), put("b"), keep(1), put("c"))},
		{parts(put("\xff"), cut(1), put("\x00")), parts(put("\xff\x00"), cut(1))},
	} {
		if d, e := Norm(x.l); e != api.OK || !slices.Equal(d, x.want) {
			t.Errorf("%#v: %#v %d, not %#v", x.l, d, e, x.want)
		}
	}
}

func TestNormErrors(t *testing.T) {
	for _, x := range []checkCase{
		{"1600 that do nothing", times(1600, keep(0)), api.OK},
		{"1601 that do nothing", times(1601, keep(0)), api.ErrLarge},
		{"1601, wrong", make([]api.Part, 1601), api.ErrLarge},
		{"1600, wrong", make([]api.Part, 1600), api.ErrForm},
		{"1600, wrong at the end", append(times(1599, keep(0)), keep(-1)), api.ErrForm},

		{"keep 500", parts(keep(200), keep(300)), api.OK},
		{"cut 500", parts(cut(200), put("a"), cut(300)), api.OK},
		{"put 500", parts(put(bytesOf(200)), cut(1), put(bytesOf(300))), api.OK},
		{"keep 501 at once", parts(keep(501)), api.ErrLarge},
		{"cut 501 at once", parts(cut(501)), api.ErrLarge},
		{"put 501 at once", parts(put(bytesOf(501))), api.ErrLarge},
		{"keep most", parts(keep(math.MaxInt), keep(math.MaxInt)), api.ErrLarge},
		{"keep 501", parts(keep(201), keep(300)), api.ErrLarge},
		{"cut 501", parts(cut(201), put("a"), cut(300)), api.ErrLarge},
		{"put 501", parts(put(bytesOf(201)), cut(1), put(bytesOf(300))), api.ErrLarge},
		{"of 501", parts(keep(250), cut(251)), api.ErrLarge},
		{"to 501", parts(keep(250), put(bytesOf(251))), api.ErrLarge},
		{"1600 of 500", times(1600, put(bytesOf(500))), api.ErrLarge},

		{"large ahead of wrong", parts(keep(501), keep(-1)), api.ErrLarge},
		{"wrong ahead of large", parts(keep(-1), keep(501)), api.ErrForm},
		{"large sums ahead of wrong", parts(keep(500), keep(500), keep(-1)), api.ErrForm},
	} {
		d, e := Norm(x.d)
		if e != x.want {
			t.Errorf("%s: %d, not %d", x.name, e, x.want)
		}
		if e != api.OK && d != nil {
			t.Errorf("%s: a list beside an error", x.name)
		}
	}
	for _, p := range wrongParts() {
		for _, l := range [][]api.Part{parts(p), parts(cut(1), put("a"), p, keep(501))} {
			if d, e := Norm(l); e != api.ErrForm || d != nil {
				t.Errorf("%.40v: %d", l, e)
			}
		}
	}
}

// everyList calls f with each list of at most n parts, of a few that are told apart by what they do.
func everyList(n int, f func(l []api.Part)) {
	few := parts(keep(0), keep(1), keep(2), cut(0), cut(1), put(""), put("a"), put("bc"))
	var grow func(l []api.Part)
	grow = func(l []api.Part) {
		f(l)
		if len(l) == n {
			return
		}
		for _, p := range few {
			grow(append(slices.Clone(l), p))
		}
	}
	grow(nil)
}

// deed tells byte by byte what parts do: between two bytes that are kept, what is put and how much is cut.
type deed struct {
	text string
	cut  int
}

func deeds(l []api.Part) []deed {
	all := []deed{{}}
	for _, p := range l {
		last := &all[len(all)-1]
		switch p.Kind {
		case api.Keep:
			all = append(all, make([]deed, p.N)...)
		case api.Put:
			last.text += p.Text
		case api.Cut:
			last.cut += p.N
		}
	}
	return all
}

func TestNormDoesTheSameInForm(t *testing.T) {
	everyList(5, func(l []api.Part) {
		d, e := Norm(l)
		if e != api.OK || Check(d) != api.OK || !slices.Equal(deeds(d), deeds(l)) {
			t.Fatalf("%v: %v %d", l, d, e)
		}
		again, e := Norm(d)
		if e != api.OK || !slices.Equal(again, d) {
			t.Fatalf("%v: %v %v %d", l, d, again, e)
		}
	})
}

func TestCheckTakesJustWhatNormLeaves(t *testing.T) {
	everyList(5, func(l []api.Part) {
		d, _ := Norm(l)
		if (Check(l) == api.OK) != slices.Equal(d, l) {
			t.Fatalf("%v: %d, but its form is %v", l, Check(l), d)
		}
	})
}

// roomy has l, and behind it spare room with marks in it.
func roomy(l []api.Part) []api.Part {
	return append(slices.Clone(l), times(8, put("spare"))...)[:len(l)]
}

func whole(l []api.Part) []api.Part { return slices.Clone(l[:cap(l)]) }

func TestNothingHandedInIsChanged(t *testing.T) {
	everyList(3, func(l []api.Part) {
		in := roomy(l)
		was := whole(in)
		Check(in)
		Sizes(in)
		Norm(in)
		if !slices.Equal(whole(in), was) {
			t.Fatalf("%v is changed", l)
		}
	})
}

func TestNormAnswersNewMemory(t *testing.T) {
	long := bytesOf(40)
	l := roomy(parts(keep(1), put(long), cut(1), keep(2)))
	was := whole(l)
	d, _ := Norm(l)
	if unsafe.StringData(d[1].Text) == unsafe.StringData(long) {
		t.Error("the text that is put is the one that was handed in")
	}
	again, _ := Norm(l)
	answer := slices.Clone(d)
	for i := range again[:cap(again)] {
		again[:cap(again)][i] = put("mine")
	}
	if !slices.Equal(whole(l), was) || !slices.Equal(d, answer) {
		t.Error("an answer shares memory with what was handed in, or with another answer")
	}
	for i := range l {
		l[i] = put("mine")
	}
	if !slices.Equal(d, answer) {
		t.Error("an answer hangs on what was handed in when that is changed later")
	}
}
