package comp

import (
	"math"
	"math/rand"
	"slices"
	"strings"
	"testing"
	"unsafe"

	"scrivenry/api"
	"scrivenry/apply"
	"scrivenry/part"
)

func keep(n int) api.Part { return api.Part{Kind: api.Keep, N: n} }

func cut(n int) api.Part { return api.Part{Kind: api.Cut, N: n} }

func put(s string) api.Part { return api.Part{Kind: api.Put, Text: s} }

func parts(l ...api.Part) []api.Part { return l }

func bytesOf(n int) string { return strings.Repeat("x", n) }

func times(n int, l ...api.Part) []api.Part { return slices.Repeat(l, n) }

func TestOf(t *testing.T) {
	for _, x := range []struct {
		name       string
		a, b, want []api.Part
	}{
		{"nothing", nil, nil, nil},
		{"nothing, empty lists", parts(), parts(), nil},
		{"put and cut again", parts(put("a")), parts(cut(1)), nil},
		{"put and keep", parts(put("a")), parts(keep(1)), parts(put("a"))},
		{"nothing and put", nil, parts(put("a")), parts(put("a"))},
		{"cut and nothing", parts(cut(3)), nil, parts(cut(3))},
		{"cut and put", parts(cut(3)), parts(put("a")), parts(put("a"), cut(3))},
		{"keep and cut", parts(keep(3)), parts(cut(3)), parts(cut(3))},
		{"keep and keep", parts(keep(3)), parts(keep(3)), parts(keep(3))},
		{"put again what was cut", parts(cut(1)), parts(put("a")), parts(put("a"), cut(1))},
		{"put within what was put", parts(put("ad")), parts(keep(1), put("bc"), keep(1)), parts(put("abcd"))},
		{"cut within what was put", parts(put("abcd")), parts(keep(1), cut(2), keep(1)), parts(put("ad"))},
		{"cut on both sides of a cut", parts(keep(1), cut(1), keep(1)), parts(cut(2)), parts(cut(3))},
		{"keep on both sides of what is gone", parts(keep(1), put("a"), keep(1)), parts(keep(1), cut(1), keep(1)), parts(keep(2))},
		{"keep on both sides of a cut", parts(keep(1), cut(1), keep(1)), parts(keep(2)), parts(keep(1), cut(1), keep(1))},
		{"put ahead of a cut", parts(cut(1), keep(1)), parts(put("a"), keep(1)), parts(put("a"), cut(1), keep(1))},
		{"put behind a cut", parts(keep(1), cut(1)), parts(keep(1), put("a")), parts(keep(1), put("a"), cut(1))},
		{"put on both sides of what is cut later", parts(put("a"), keep(1), put("b")), parts(keep(1), cut(1), keep(1)), parts(put("ab"), cut(1))},
		{"all kinds", parts(keep(2), put("xy"), cut(1), keep(1)), parts(keep(1), cut(2), keep(1), put("z"), keep(1)),
			parts(keep(1), put("yz"), cut(2), keep(1))},
		{"any bytes", parts(put("\xc3\xa9")), parts(cut(1), keep(1), put("\x00")), parts(put("\xa9\x00"))},
		{"500, other ones", parts(put(strings.Repeat("y", 500)), cut(500)), parts(put(bytesOf(500)), cut(500)),
			parts(put(bytesOf(500)), cut(500))},
		{"500 kept", parts(keep(500)), parts(keep(500)), parts(keep(500))},
	} {
		if d, e := Of(x.a, x.b); e != api.OK || !slices.Equal(d, x.want) {
			t.Errorf("%s: %.60v %d, not %.60v", x.name, d, e, x.want)
		}
	}
}

func TestOfErrors(t *testing.T) {
	form, large := parts(keep(0)), parts(keep(501))
	for _, x := range []struct {
		name string
		a, b []api.Part
		want api.Errno
	}{
		{"form, large", form, large, api.ErrForm},
		{"large, form", large, form, api.ErrLarge},
		{"form, right", form, parts(keep(1)), api.ErrForm},
		{"right, form", parts(keep(1)), form, api.ErrForm},
		{"right, large", parts(keep(1)), large, api.ErrLarge},
		{"large, right", large, parts(keep(501)), api.ErrLarge},
		{"wrong place", parts(cut(1), put("a")), parts(keep(1)), api.ErrForm},
		{"wrong place, of b", parts(keep(2)), parts(keep(1), keep(1)), api.ErrForm},
		{"of 501", parts(keep(500)), parts(keep(400), cut(101)), api.ErrLarge},
		{"to 501", parts(keep(400), put(bytesOf(101))), parts(keep(500)), api.ErrLarge},
		{"1601", make([]api.Part, 1601), form, api.ErrLarge},
		{"1601 of b", parts(keep(1)), make([]api.Part, 1601), api.ErrLarge},
		{"least and most", parts(keep(math.MinInt)), parts(keep(math.MaxInt)), api.ErrForm},
		{"most and least", parts(keep(math.MaxInt)), parts(keep(math.MinInt)), api.ErrLarge},
		{"too short", parts(keep(1)), nil, api.ErrLen},
		{"too long", nil, parts(keep(1)), api.ErrLen},
		{"as long as a's own text", parts(put("a"), cut(2)), parts(keep(2)), api.ErrLen},
		{"one short", parts(keep(2), put("a")), parts(keep(1), cut(1)), api.ErrLen},
		{"one long", parts(keep(2), put("a")), parts(keep(1), cut(3)), api.ErrLen},
		{"long by what b puts", parts(keep(2)), parts(put("a"), keep(1)), api.ErrLen},
	} {
		if d, e := Of(x.a, x.b); e != x.want || d != nil {
			t.Errorf("%s: %.60v %d, not %d", x.name, d, e, x.want)
		}
	}
}

// everyDelta calls f with each delta of a text of n bytes that puts s, or nothing, at each
// place where it can.
func everyDelta(n int, s string, f func(d []api.Part)) {
	var grow func(l []api.Part, left int)
	grow = func(l []api.Part, left int) {
		if left == 0 {
			f(l)
			return
		}
		for _, more := range [][]api.Part{parts(keep(1)), parts(keep(1), put(s)), parts(cut(1))} {
			d, _ := part.Norm(append(slices.Clone(l), more...))
			grow(d, left-1)
		}
	}
	grow(nil, n)
	grow(parts(put(s)), n)
}

// mark is a byte, and which one of the first text it is (-1: none of it).
type mark struct {
	from int
	b    byte
}

func marks(s string) []mark {
	var l []mark
	for i := range len(s) {
		l = append(l, mark{i, s[i]})
	}
	return l
}

func trace(d []api.Part, l []mark) []mark {
	var made []mark
	for _, p := range d {
		if p.Kind == api.Keep {
			made = append(made, l[:p.N]...)
		}
		for i := range len(p.Text) {
			made = append(made, mark{-1, p.Text[i]})
		}
		l = l[p.N:]
	}
	return made
}

func testPair(t *testing.T, a, b []api.Part, s string) {
	t.Helper()
	d, e := Of(a, b)
	if e != api.OK || apply.Fits(d, len(s)) != api.OK {
		t.Fatalf("%v, %v: %v %d", a, b, d, e)
	}
	want := trace(b, trace(a, marks(s)))
	if got := trace(d, marks(s)); !slices.Equal(got, want) {
		t.Fatalf("%v, %v: %v makes %v, not %v", a, b, d, got, want)
	}
}

func TestEveryShortPair(t *testing.T) {
	for n := range 3 {
		for _, s := range []string{"x", "uv"} {
			everyDelta(n, s, func(a []api.Part) {
				_, made, _ := part.Sizes(a)
				everyDelta(made, "z", func(b []api.Part) { testPair(t, a, b, "12"[:n]) })
			})
		}
	}
}

func anyText(r *rand.Rand, n int) string {
	b := make([]byte, n)
	r.Read(b)
	return string(b)
}

// anyDelta makes a delta of n bytes by chance, that makes at most 500.
func anyDelta(r *rand.Rand, n int) []api.Part {
	for {
		var l []api.Part
		for left := n; left > 0; {
			k := 1 + r.Intn(min(left, 1+r.Intn(20)))
			left -= k
			l = append(l, put(anyText(r, r.Intn(2)*r.Intn(20))), api.Part{Kind: api.Keep + 2*r.Intn(2), N: k})
		}
		d, e := part.Norm(append(l, put("end")))
		if e == api.OK {
			return d
		}
	}
}

func TestLongPairs(t *testing.T) {
	r := rand.New(rand.NewSource(1))
	for range 500 {
		n := r.Intn(300)
		a := anyDelta(r, n)
		_, made, _ := part.Sizes(a)
		testPair(t, a, anyDelta(r, made), anyText(r, n))
	}
}

func TestMostParts(t *testing.T) {
	a := times(250, keep(1), put("a"), cut(1))
	testPair(t, a, times(250, cut(1), keep(1)), bytesOf(500))
	testPair(t, a, times(250, put("b"), cut(1), keep(1)), bytesOf(500))
	testPair(t, times(250, put("b"), cut(1), keep(1)), a, bytesOf(500))
	testPair(t, parts(keep(500)), a, bytesOf(500))
	testPair(t, a, parts(put(bytesOf(500)), cut(500)), bytesOf(500))
	testPair(t, a, parts(cut(500)), bytesOf(500))
}

// roomy has l, and behind it spare room with marks in it.
func roomy(l []api.Part) []api.Part {
	return append(slices.Clone(l), times(8, put("spare"))...)[:len(l)]
}

func whole(l []api.Part) []api.Part { return slices.Clone(l[:cap(l)]) }

func TestNothingHandedInIsChanged(t *testing.T) {
	everyDelta(2, "xy", func(d []api.Part) {
		a := roomy(d)
		wasA := whole(a)
		_, made, _ := part.Sizes(a)
		everyDelta(made, "z", func(d []api.Part) {
			b := roomy(d)
			wasB := whole(b)
			Of(a, b)
			if !slices.Equal(whole(a), wasA) || !slices.Equal(whole(b), wasB) {
				t.Fatalf("%v, %v: changed", wasA, wasB)
			}
		})
	})
}

func TestAnswerIsNewMemory(t *testing.T) {
	text := bytesOf(40)
	for _, x := range []struct{ a, b []api.Part }{
		{roomy(parts(put(text))), roomy(parts(keep(40)))},
		{roomy(parts(keep(1))), roomy(parts(keep(1), put(text)))},
		{roomy(parts(cut(1))), roomy(parts(put(text)))},
		{roomy(parts(cut(1))), nil},
	} {
		wasA, wasB := whole(x.a), whole(x.b)
		d, _ := Of(x.a, x.b)
		for _, p := range d {
			if p.Kind == api.Put && unsafe.StringData(p.Text) == unsafe.StringData(text) {
				t.Errorf("%.60v, %.60v: the text that is put is the one that was handed in", x.a, x.b)
			}
		}
		for i := range d[:cap(d)] {
			d[:cap(d)][i] = put("mine")
		}
		if !slices.Equal(whole(x.a), wasA) || !slices.Equal(whole(x.b), wasB) {
			t.Errorf("%.60v, %.60v: the answer shares memory with them", wasA, wasB)
		}
	}
}
