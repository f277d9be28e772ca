package spot

import (
	"math"
	"slices"
	"strings"
	"testing"

	"scrivenry/api"
	"scrivenry/part"
)

func keep(n int) api.Part { return api.Part{Kind: api.Keep, N: n} }

func cut(n int) api.Part { return api.Part{Kind: api.Cut, N: n} }

func put(s string) api.Part { return api.Part{Kind: api.Put, Text: s} }

func parts(l ...api.Part) []api.Part { return l }

func bytesOf(n int) string { return strings.Repeat("x", n) }

func times(n int, l ...api.Part) []api.Part { return slices.Repeat(l, n) }

func TestOf(t *testing.T) {
	for _, x := range []struct {
		name        string
		d           []api.Part
		early, late []int // of each place, from 0 on
	}{
		{"nothing", nil, []int{0}, []int{0}},
		{"nothing, empty list", parts(), []int{0}, []int{0}},
		{"put into nothing", parts(put("ab")), []int{0}, []int{2}},
		{"keep", parts(keep(2)), []int{0, 1, 2}, []int{0, 1, 2}},
		{"cut", parts(cut(2)), []int{0, 0, 0}, []int{0, 0, 0}},
		{"put ahead", parts(put("xyz"), keep(2)), []int{0, 4, 5}, []int{3, 4, 5}},
		{"put within", parts(keep(1), put("xyz"), keep(1)), []int{0, 1, 5}, []int{0, 4, 5}},
		{"put behind", parts(keep(2), put("xyz")), []int{0, 1, 2}, []int{0, 1, 5}},
		{"put ahead of a cut", parts(put("xy"), cut(2)), []int{0, 2, 2}, []int{2, 2, 2}},
		{"cut ahead", parts(cut(2), keep(2)), []int{0, 0, 0, 1, 2}, []int{0, 0, 0, 1, 2}},
		{"cut within", parts(keep(1), cut(2), keep(1)), []int{0, 1, 1, 1, 2}, []int{0, 1, 1, 1, 2}},
		{"cut, and put behind a kept byte", parts(cut(1), keep(1), put("q")), []int{0, 0, 1}, []int{0, 0, 2}},
		{"puts, apart", parts(put("a"), keep(1), put("bc"), keep(1), put("def")), []int{0, 2, 5}, []int{1, 4, 8}},
		{"puts ahead of cuts", parts(keep(1), put("xyz"), cut(2), keep(1), put("u"), cut(1)),
			[]int{0, 1, 4, 4, 5, 6}, []int{0, 4, 4, 4, 6, 6}},
	} {
		for at := range x.early {
			early, e := Of(x.d, at, false)
			late, e2 := Of(x.d, at, true)
			if early != x.early[at] || late != x.late[at] || e != api.OK || e2 != api.OK {
				t.Errorf("%s: place %d: %d %d, late %d %d, not %d and %d", x.name, at, early, e, late, e2, x.early[at], x.late[at])
			}
		}
		for _, at := range []int{-1, len(x.early), math.MinInt, math.MaxInt} {
			for _, late := range []bool{false, true} {
				if to, e := Of(x.d, at, late); to != 0 || e != api.ErrArg {
					t.Errorf("%s: place %d: %d %d", x.name, at, to, e)
				}
			}
		}
	}
}

func TestOfErrors(t *testing.T) {
	for _, x := range []struct {
		name string
		d    []api.Part
		at   int
		want api.Errno
	}{
		{"keep 0", parts(keep(0)), 0, api.ErrForm},
		{"put nothing", parts(put("")), 0, api.ErrForm},
		{"cut below 0", parts(cut(-1)), 0, api.ErrForm},
		{"wrong kind", parts(api.Part{Kind: 4, N: 1}), 0, api.ErrForm},
		{"a text too many", parts(api.Part{Kind: api.Keep, N: 1, Text: "a"}), 0, api.ErrForm},
		{"wrong place", parts(cut(1), put("a")), 0, api.ErrForm},
		{"wrong, and at below 0", parts(keep(1), keep(1)), -1, api.ErrForm},
		{"wrong, and at behind the end", parts(keep(1), keep(1)), 7, api.ErrForm},
		{"wrong behind the place", parts(keep(1), cut(1), put("a")), 0, api.ErrForm},
		{"501", parts(keep(501)), 0, api.ErrLarge},
		{"501, and at behind the end", parts(keep(501)), 502, api.ErrLarge},
		{"to 501", parts(keep(400), put(bytesOf(101))), 0, api.ErrLarge},
		{"of 501", parts(keep(400), cut(101)), -1, api.ErrLarge},
		{"most", parts(cut(math.MaxInt)), 0, api.ErrLarge},
		{"least", parts(cut(math.MinInt)), 0, api.ErrForm},
		{"1601", make([]api.Part, 1601), 0, api.ErrLarge},
		{"a place of what it makes", parts(put("abc"), keep(1)), 2, api.ErrArg},
		{"behind 500", parts(keep(500)), 501, api.ErrArg},
	} {
		for _, late := range []bool{false, true} {
			if to, e := Of(x.d, x.at, late); e != x.want || to != 0 {
				t.Errorf("%s: %d %d, not %d", x.name, to, e, x.want)
			}
		}
	}
}

// everyDelta calls f with each delta of a text of n bytes that puts s, or nothing, at each
// place where it can.
func everyDelta(n int, s string, f func(d []api.Part)) {
	var grow func(l []api.Part, left int)
	grow = func(l []api.Part, left int) {
		if left == 0 {
			f(l)
			return
		}
		for _, more := range [][]api.Part{parts(keep(1)), parts(keep(1), put(s)), parts(cut(1))} {
			d, _ := part.Norm(append(slices.Clone(l), more...))
			grow(d, left-1)
		}
	}
	grow(nil, n)
	grow(parts(put(s)), n)
}

// made has the bytes that d makes, each by its place in the text that d is of, twice, and one
// more if the byte is the text's own: so what is put at a place is less than its byte.
func made(d []api.Part) []int {
	var l []int
	at := 0
	for _, p := range d {
		for range p.Text {
			l = append(l, 2*at)
		}
		for range p.N {
			if p.Kind == api.Keep {
				l = append(l, 2*at+1)
			}
			at++
		}
	}
	return l
}

func testSpots(t *testing.T, d []api.Part, n int) {
	t.Helper()
	l := made(d)
	for at := range n + 1 {
		early, e := Of(d, at, false)
		late, e2 := Of(d, at, true)
		wantEarly, _ := slices.BinarySearch(l, 2*at)
		wantLate, _ := slices.BinarySearch(l, 2*at+1)
		if early != wantEarly || late != wantLate || e != api.OK || e2 != api.OK {
			t.Fatalf("%.60v, %d: %d %d, %d %d, not %d and %d", d, at, early, e, late, e2, wantEarly, wantLate)
		}
	}
}

func TestEveryShortDelta(t *testing.T) {
	for n := range 7 {
		for _, s := range []string{"a", "xyz"} {
			everyDelta(n, s, func(d []api.Part) { testSpots(t, d, n) })
		}
	}
}

func TestMostParts(t *testing.T) {
	testSpots(t, times(250, keep(1), put("x"), cut(1)), 500)
	testSpots(t, times(250, cut(1), keep(1)), 500)
	testSpots(t, times(250, put("x"), keep(1)), 250)
	testSpots(t, parts(put(bytesOf(500)), cut(500)), 500)
	testSpots(t, parts(keep(500)), 500)
}

func TestNothingHandedInIsChanged(t *testing.T) {
	everyDelta(4, "xy", func(l []api.Part) {
		d := append(slices.Clone(l), times(8, put("spare"))...)
		was := slices.Clone(d)
		for at := -1; at <= 5; at++ {
			Of(d[:len(l)], at, true)
			Of(d[:len(l)], at, false)
		}
		if !slices.Equal(d, was) {
			t.Fatalf("%v is changed", l)
		}
	})
}
