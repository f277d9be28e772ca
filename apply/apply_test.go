package apply

import (
	"math"
	"slices"
	"strings"
	"testing"
	"unsafe"

	"scrivenry/api"
	"scrivenry/part"
)

func keep(n int) api.Part { return api.Part{Kind: api.Keep, N: n} }

func cut(n int) api.Part { return api.Part{Kind: api.Cut, N: n} }

func put(s string) api.Part { return api.Part{Kind: api.Put, Text: s} }

func parts(l ...api.Part) []api.Part { return l }

func bytesOf(n int) string { return strings.Repeat("x", n) }

func TestFits(t *testing.T) {
	for _, x := range []struct {
		d    []api.Part
		n    int
		want api.Errno
	}{
		{nil, 0, api.OK},
		{nil, 1, api.ErrLen},
		{nil, -1, api.ErrLen},
		{parts(put("ab")), 0, api.OK},
		{parts(put("ab")), 2, api.ErrLen},
		{parts(keep(2), put("abcd"), cut(1)), 3, api.OK},
		{parts(keep(2), put("abcd"), cut(1)), 2, api.ErrLen},
		{parts(keep(2), put("abcd"), cut(1)), 4, api.ErrLen},
		{parts(keep(2), put("abcd"), cut(1)), 6, api.ErrLen},
		{parts(keep(500)), 500, api.OK},
		{parts(keep(500)), 501, api.ErrLen},
		{parts(keep(500)), math.MaxInt, api.ErrLen},
		{parts(keep(500)), math.MinInt, api.ErrLen},
	} {
		if e := Fits(x.d, x.n); e != x.want {
			t.Errorf("%v, %d: %d, not %d", x.d, x.n, e, x.want)
		}
	}
}

// wrongDeltas have, each, an error of part.Check's, which is told whatever the text is.
func wrongDeltas() [][]api.Part {
	return [][]api.Part{
		parts(keep(0)), parts(keep(-1)), parts(put("")), parts(api.Part{Kind: 4, N: 1}),
		parts(keep(1), keep(1)), parts(cut(1), put("a")), parts(api.Part{Kind: api.Keep, N: 1, Text: "a"}),
		parts(keep(501)), parts(put(bytesOf(501))), parts(keep(400), cut(101)), parts(keep(400), put(bytesOf(101))),
		parts(cut(math.MaxInt)), parts(cut(math.MinInt)), make([]api.Part, 1600), make([]api.Part, 1601),
	}
}

func TestChecksErrorIsFirst(t *testing.T) {
	for _, d := range wrongDeltas() {
		want := part.Check(d)
		for _, n := range []int{0, 1, 2, 501} {
			if e := Fits(d, n); e != want || e == api.OK {
				t.Errorf("%.40v, %d: %d, not %d", d, n, e, want)
			}
			if s, e := Do(d, bytesOf(n)); s != "" || e != want {
				t.Errorf("%.40v, %d: %q %d, not %d", d, n, s, e, want)
			}
		}
	}
}

func TestDo(t *testing.T) {
	for _, x := range []struct {
		d       []api.Part
		s, want string
	}{
		{nil, "", ""},
		{parts(keep(1), put("xy"), cut(2), keep(1)), "abcd", "axyd"},
		{parts(keep(3)), "abc", "abc"},
		{parts(cut(3)), "abc", ""},
		{parts(put("abc")), "", "abc"},
		{parts(put("x"), cut(3)), "abc", "x"},
		{parts(put("x"), keep(3)), "abc", "xabc"},
		{parts(keep(3), put("x")), "abc", "abcx"},
		{parts(cut(1), keep(1), cut(1)), "abc", "b"},
		{parts(keep(1), cut(1), keep(1)), "abc", "ac"},
		{parts(put("1"), cut(1), keep(1), put("2"), keep(1), put("3"), cut(1), keep(1), put("4")), "abcde", "1b2c3e4"},
		{parts(cut(1), keep(2), put("\xff")), "\xc3\xa9\x00", "\xa9\x00\xff"},
		{parts(put(bytesOf(500)), cut(500)), strings.Repeat("y", 500), bytesOf(500)},
	} {
		if s, e := Do(x.d, x.s); s != x.want || e != api.OK {
			t.Errorf("%#v, %q: %q %d, not %q", x.d, x.s, s, e, x.want)
		}
	}
}

func TestDoUnlikeLength(t *testing.T) {
	for _, x := range []struct {
		d []api.Part
		n int
	}{
		{nil, 1}, {parts(keep(1)), 0}, {parts(keep(1)), 2}, {parts(cut(3)), 2}, {parts(cut(3)), 4},
		{parts(put("ab")), 2}, {parts(keep(1), put("ab")), 3}, {parts(keep(500)), 501}, {parts(keep(500)), 2000},
	} {
		if s, e := Do(x.d, bytesOf(x.n)); s != "" || e != api.ErrLen {
			t.Errorf("%v, %d: %q %d", x.d, x.n, s, e)
		}
	}
}

func TestDoMakesAsManyBytesAsSizesTells(t *testing.T) {
	for i := range 6 {
		for k := range 6 {
			d, _ := part.Norm(parts(keep(i), put(bytesOf(k)), cut(k), keep(k), cut(i), put("z")))
			in, out, _ := part.Sizes(d)
			if s, e := Do(d, bytesOf(in)); len(s) != out || e != api.OK {
				t.Errorf("%v: %q %d", d, s, e)
			}
		}
	}
}

func TestNothingHandedInIsChanged(t *testing.T) {
	room := parts(keep(1), put("xy"), cut(2), keep(1), put("spare"), put("room"))
	was := slices.Clone(room)
	for n := range len(room) + 1 {
		Fits(room[:n], 4)
		Do(room[:n], "abcd")
	}
	if !slices.Equal(room, was) {
		t.Errorf("%v is changed", room)
	}
}

func TestDoAnswersNewMemory(t *testing.T) {
	text := bytesOf(40)
	for _, x := range []struct {
		d []api.Part
		s string
	}{{parts(keep(40)), text}, {parts(put(text)), ""}} {
		if s, _ := Do(x.d, x.s); s != text || unsafe.StringData(s) == unsafe.StringData(text) {
			t.Errorf("%v: the answer is what was handed in", x.d)
		}
	}
}
