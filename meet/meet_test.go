package meet

import (
	"math"
	"math/rand"
	"slices"
	"strings"
	"testing"
	"unsafe"

	"scrivenry/api"
	"scrivenry/apply"
	"scrivenry/part"
)

func keep(n int) api.Part { return api.Part{Kind: api.Keep, N: n} }

func cut(n int) api.Part { return api.Part{Kind: api.Cut, N: n} }

func ins(s string) api.Part { return api.Part{Kind: api.Put, Text: s} }

func parts(l ...api.Part) []api.Part { return l }

func bytesOf(n int) string { return strings.Repeat("x", n) }

func times(n int, l ...api.Part) []api.Part { return slices.Repeat(l, n) }

func TestOf(t *testing.T) {
	for _, x := range []struct {
		name               string
		a, b, wantA, wantB []api.Part
	}{
		{"nothing", nil, nil, nil, nil},
		{"nothing, empty lists", parts(), parts(), nil, nil},
		{"both keep", parts(keep(3)), parts(keep(3)), parts(keep(3)), parts(keep(3))},
		{"both cut", parts(cut(3)), parts(cut(3)), nil, nil},
		{"one cuts", parts(cut(3)), parts(keep(3)), parts(cut(3)), nil},
		{"the other cuts", parts(keep(3)), parts(cut(3)), nil, parts(cut(3))},
		{"one puts", parts(ins("a")), nil, parts(ins("a")), parts(keep(1))},
		{"the other puts", nil, parts(ins("a")), parts(keep(1)), parts(ins("a"))},
		{"both put", parts(ins("ab")), parts(ins("c")), parts(ins("ab"), keep(1)), parts(keep(2), ins("c"))},
		{"both put the same", parts(ins("a")), parts(ins("a")), parts(ins("a"), keep(1)), parts(keep(1), ins("a"))},
		{"both put ahead", parts(ins("a"), keep(1)), parts(ins("b"), keep(1)), parts(ins("a"), keep(2)), parts(keep(1), ins("b"), keep(1))},
		{"both put behind", parts(keep(1), ins("a")), parts(keep(1), ins("b")), parts(keep(1), ins("a"), keep(1)), parts(keep(2), ins("b"))},
		{"put where the other cuts", parts(keep(1), ins("a"), keep(2)), parts(keep(1), cut(1), keep(1)),
			parts(keep(1), ins("a"), keep(1)), parts(keep(2), cut(1), keep(1))},
		{"put within what the other cuts", parts(keep(1), ins("a"), keep(1)), parts(cut(2)), parts(ins("a")), parts(cut(1), keep(1), cut(1))},
		{"the other within", parts(cut(2)), parts(keep(1), ins("a"), keep(1)), parts(cut(1), keep(1), cut(1)), parts(ins("a"))},
		{"both cut, and put", parts(ins("a"), cut(2)), parts(ins("b"), cut(2)), parts(ins("a"), keep(1)), parts(keep(1), ins("b"))},
		{"cuts that overlap", parts(cut(2), keep(1)), parts(keep(1), cut(2)), parts(cut(1)), parts(cut(1))},
		{"cuts that touch", parts(cut(1), keep(1)), parts(keep(1), cut(1)), parts(cut(1)), parts(cut(1))},
		{"put ahead of a cut that stands ahead", parts(cut(1), keep(1), ins("x"), cut(1)), parts(keep(1), cut(1), keep(1)),
			parts(ins("x"), cut(2)), parts(cut(1), keep(1))},
		{"the other likewise", parts(keep(1), cut(1), keep(1)), parts(cut(1), keep(1), ins("x"), cut(1)),
			parts(cut(1), keep(1)), parts(ins("x"), cut(2))},
		{"at places of one hole, the other's ahead", parts(keep(1), ins("a"), keep(1)), parts(ins("b"), cut(2)),
			parts(keep(1), ins("a")), parts(ins("b"), cut(1), keep(1), cut(1))},
		{"at places of one hole, one's own ahead", parts(ins("a"), cut(2)), parts(keep(1), ins("b"), keep(1)),
			parts(ins("a"), cut(1), keep(1), cut(1)), parts(keep(1), ins("b"))},
		{"texts that come together", parts(ins("a"), keep(1), ins("b")), parts(cut(1)), parts(ins("ab")), parts(keep(1), cut(1), keep(1))},
		{"any bytes", parts(ins("\xc3"), keep(1)), parts(ins("\xa9\x00"), cut(1)), parts(ins("\xc3"), keep(2)), parts(keep(1), ins("\xa9\x00"), cut(1))},
		{"500 together", parts(ins(bytesOf(300))), parts(ins(bytesOf(200))),
			parts(ins(bytesOf(300)), keep(200)), parts(keep(300), ins(bytesOf(200)))},
		{"500 together, of 500", parts(ins(bytesOf(300)), cut(500)), parts(ins(bytesOf(200)), cut(500)),
			parts(ins(bytesOf(300)), keep(200)), parts(keep(300), ins(bytesOf(200)))},
		{"500 together, with what is kept", parts(ins(bytesOf(200)), keep(100)), parts(keep(100), ins(bytesOf(200))),
			parts(ins(bytesOf(200)), keep(300)), parts(keep(300), ins(bytesOf(200)))},
		{"500 together, as one cuts", parts(keep(250), ins(bytesOf(250))), parts(ins(bytesOf(250)), cut(250)),
			parts(keep(250), ins(bytesOf(250))), parts(ins(bytesOf(250)), cut(250), keep(250))},
	} {
		a, b, e := Of(x.a, x.b)
		if e != api.OK || !slices.Equal(a, x.wantA) || !slices.Equal(b, x.wantB) {
			t.Errorf("%s: %.60v and %.60v %d, not %.60v and %.60v", x.name, a, b, e, x.wantA, x.wantB)
		}
	}
}

func TestOfErrors(t *testing.T) {
	form, large := parts(keep(0)), parts(keep(501))
	for _, x := range []struct {
		name string
		a, b []api.Part
		want api.Errno
	}{
		{"form, large", form, large, api.ErrForm},
		{"large, form", large, form, api.ErrLarge},
		{"form, right", form, parts(keep(1)), api.ErrForm},
		{"right, form", parts(keep(1)), form, api.ErrForm},
		{"right, large", parts(keep(1)), large, api.ErrLarge},
		{"large, right", large, parts(keep(1)), api.ErrLarge},
		{"wrong place", parts(cut(1), ins("a")), parts(keep(1)), api.ErrForm},
		{"wrong place, of b", parts(keep(2)), parts(keep(1), keep(1)), api.ErrForm},
		{"of 501", parts(keep(400), cut(101)), parts(keep(500)), api.ErrLarge},
		{"b to 501", parts(keep(400)), parts(keep(400), ins(bytesOf(101))), api.ErrLarge},
		{"1601", make([]api.Part, 1601), form, api.ErrLarge},
		{"1601 of b", parts(keep(1)), make([]api.Part, 1601), api.ErrLarge},
		{"least and most", parts(keep(math.MinInt)), parts(keep(math.MaxInt)), api.ErrForm},
		{"most and least", parts(keep(math.MaxInt)), parts(keep(math.MinInt)), api.ErrLarge},
		{"b shorter", parts(keep(2)), parts(keep(1)), api.ErrLen},
		{"b longer", parts(keep(1)), parts(cut(2)), api.ErrLen},
		{"nothing, of something", nil, parts(keep(1)), api.ErrLen},
		{"something, of nothing", parts(cut(1)), nil, api.ErrLen},
		{"b of what a makes", parts(keep(1), ins("a")), parts(keep(1), cut(1)), api.ErrLen},
		{"unlike, and too much together", parts(ins(bytesOf(300)), keep(1)), parts(ins(bytesOf(300)), keep(2)), api.ErrLen},
		{"501 together", parts(ins(bytesOf(300))), parts(ins(bytesOf(201))), api.ErrLarge},
		{"501 together, with what is kept", parts(ins(bytesOf(200)), keep(101)), parts(keep(101), ins(bytesOf(200))), api.ErrLarge},
		{"501 together, of 500", parts(ins(bytesOf(300)), cut(500)), parts(ins(bytesOf(201)), cut(500)), api.ErrLarge},
		{"1000 together", parts(ins(bytesOf(500))), parts(ins(bytesOf(500))), api.ErrLarge},
	} {
		if a, b, e := Of(x.a, x.b); e != x.want || a != nil || b != nil {
			t.Errorf("%s: %.60v and %.60v %d, not %d", x.name, a, b, e, x.want)
		}
	}
}

// everyDelta calls f with each delta of a text of n bytes that puts s, or nothing, at each
// place where it can.
func everyDelta(n int, s string, f func(d []api.Part)) {
	var grow func(l []api.Part, left int)
	grow = func(l []api.Part, left int) {
		if left == 0 {
			f(l)
			return
		}
		for _, more := range [][]api.Part{parts(keep(1)), parts(keep(1), ins(s)), parts(cut(1))} {
			d, _ := part.Norm(append(slices.Clone(l), more...))
			grow(d, left-1)
		}
	}
	grow(nil, n)
	grow(parts(ins(s)), n)
}

// mark is a byte: the i-th that is put at a place of the text by who, or (who 3, i 0) the
// text's own. Sorted, the marks that stay are the text that P9 asks for.
type mark struct{ place, who, i int }

func less(x, y mark) int {
	if x.place != y.place {
		return x.place - y.place
	}
	if x.who != y.who {
		return x.who - y.who
	}
	return x.i - y.i
}

// does tells what d, which is who's, puts into a text of n bytes, and which of these it keeps.
func does(d []api.Part, who int) (puts, keeps []mark) {
	at := 0
	for _, p := range d {
		for i := range len(p.Text) {
			puts = append(puts, mark{at, who, i})
		}
		for range p.N {
			if p.Kind == api.Keep {
				keeps = append(keeps, mark{at, 3, 0})
			}
			at++
		}
	}
	return puts, keeps
}

func sorted(l ...[]mark) []mark {
	all := slices.Concat(l...)
	slices.SortFunc(all, less)
	return all
}

// trace does d to l: what it puts is, in order, what news has.
func trace(d []api.Part, l, news []mark) []mark {
	var made []mark
	for _, p := range d {
		if p.Kind == api.Keep {
			made = append(made, l[:p.N]...)
		}
		made = append(made, news[:len(p.Text)]...)
		l, news = l[p.N:], news[len(p.Text):]
	}
	return made
}

func textOf(d []api.Part) string {
	var s strings.Builder
	for _, p := range d {
		s.WriteString(p.Text)
	}
	return s.String()
}

func testPair(t *testing.T, a, b []api.Part) {
	t.Helper()
	putsA, keepsA := does(a, 1)
	putsB, keepsB := does(b, 2)
	both := slices.DeleteFunc(slices.Clone(keepsA), func(m mark) bool { return !slices.Contains(keepsB, m) })
	want := sorted(putsA, putsB, both)
	leftA, leftB, e := Of(a, b)
	if len(want) > api.MaxDoc {
		if e != api.ErrLarge || leftA != nil || leftB != nil {
			t.Fatalf("%v, %v: %v, %v %d", a, b, leftA, leftB, e)
		}
		return
	}
	madeA, madeB := sorted(putsA, keepsA), sorted(putsB, keepsB)
	if e != api.OK || apply.Fits(leftA, len(madeB)) != api.OK || apply.Fits(leftB, len(madeA)) != api.OK {
		t.Fatalf("%v, %v: %v, %v %d", a, b, leftA, leftB, e)
	}
	if textOf(leftA) != textOf(a) || textOf(leftB) != textOf(b) {
		t.Fatalf("%v, %v: %v, %v put something else", a, b, leftA, leftB)
	}
	if got := trace(leftA, madeB, putsA); !slices.Equal(got, want) {
		t.Fatalf("%v, %v: %v makes %v, not %v", a, b, leftA, got, want)
	}
	if got := trace(leftB, madeA, putsB); !slices.Equal(got, want) {
		t.Fatalf("%v, %v: %v makes %v, not %v", a, b, leftB, got, want)
	}
}

func TestEveryShortPair(t *testing.T) {
	for n := range 5 {
		everyDelta(n, "xy", func(a []api.Part) {
			everyDelta(n, "z", func(b []api.Part) { testPair(t, a, b) })
		})
	}
}

func anyText(r *rand.Rand, n int) string {
	b := make([]byte, n)
	r.Read(b)
	return string(b)
}

// anyDelta makes a delta of n bytes by chance, that makes at most 500.
func anyDelta(r *rand.Rand, n int) []api.Part {
	for {
		var l []api.Part
		for left := n; left > 0; {
			k := 1 + r.Intn(min(left, 1+r.Intn(20)))
			left -= k
			l = append(l, ins(anyText(r, r.Intn(2)*r.Intn(20))), api.Part{Kind: api.Keep + 2*r.Intn(2), N: k})
		}
		d, e := part.Norm(append(l, ins("end")))
		if e == api.OK {
			return d
		}
	}
}

func TestLongPairs(t *testing.T) {
	r := rand.New(rand.NewSource(1))
	for range 500 {
		n := r.Intn(400)
		testPair(t, anyDelta(r, n), anyDelta(r, n))
	}
}

func TestMostParts(t *testing.T) {
	l := [][]api.Part{
		times(250, keep(1), ins("a"), cut(1)),
		times(250, ins("b"), cut(1), keep(1)),
		times(250, cut(1), keep(1)),
		times(250, keep(1), cut(1)),
		parts(ins(bytesOf(500)), cut(500)),
		parts(keep(500)),
		parts(cut(500)),
	}
	for _, a := range l {
		for _, b := range l {
			testPair(t, a, b)
		}
	}
}

// roomy has l, and behind it spare room with marks in it.
func roomy(l []api.Part) []api.Part {
	return append(slices.Clone(l), times(8, ins("spare"))...)[:len(l)]
}

func whole(l []api.Part) []api.Part { return slices.Clone(l[:cap(l)]) }

func TestNothingHandedInIsChanged(t *testing.T) {
	everyDelta(3, "xy", func(d []api.Part) {
		a := roomy(d)
		wasA := whole(a)
		everyDelta(3, "z", func(d []api.Part) {
			b := roomy(d)
			wasB := whole(b)
			Of(a, b)
			if !slices.Equal(whole(a), wasA) || !slices.Equal(whole(b), wasB) {
				t.Fatalf("%v, %v: changed", wasA, wasB)
			}
		})
	})
}

func overwrite(l []api.Part) {
	for i := range l[:cap(l)] {
		l[:cap(l)][i] = ins("mine")
	}
}

func TestAnswerIsNewMemory(t *testing.T) {
	text := bytesOf(40)
	for _, x := range []struct{ a, b []api.Part }{
		{roomy(parts(ins(text))), roomy(nil)},
		{roomy(nil), roomy(parts(ins(text)))},
		{roomy(parts(keep(2), ins(text))), roomy(parts(keep(2), ins(text)))},
		{roomy(parts(keep(1), cut(1))), roomy(parts(keep(2)))},
		{roomy(parts(keep(2))), roomy(parts(keep(2)))},
	} {
		wasA, wasB := whole(x.a), whole(x.b)
		a, b, _ := Of(x.a, x.b)
		for _, p := range slices.Concat(a, b) {
			if p.Kind == api.Put && unsafe.StringData(p.Text) == unsafe.StringData(text) {
				t.Errorf("%.60v, %.60v: the text that is put is the one that was handed in", x.a, x.b)
			}
		}
		isB := whole(b)
		overwrite(a)
		if !slices.Equal(whole(b), isB) {
			t.Errorf("%.60v, %.60v: the answers share memory", wasA, wasB)
		}
		overwrite(b)
		if !slices.Equal(whole(x.a), wasA) || !slices.Equal(whole(x.b), wasB) {
			t.Errorf("%.60v, %.60v: the answers share memory with them", wasA, wasB)
		}
	}
}
