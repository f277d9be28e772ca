package turn

import (
	"math"
	"slices"
	"strings"
	"testing"
	"unsafe"

	"scrivenry/api"
	"scrivenry/apply"
	"scrivenry/part"
)

func keep(n int) api.Part { return api.Part{Kind: api.Keep, N: n} }

func cut(n int) api.Part { return api.Part{Kind: api.Cut, N: n} }

func put(s string) api.Part { return api.Part{Kind: api.Put, Text: s} }

func parts(l ...api.Part) []api.Part { return l }

func bytesOf(n int) string { return strings.Repeat("x", n) }

func times(n int, l ...api.Part) []api.Part { return slices.Repeat(l, n) }

func TestOf(t *testing.T) {
	for _, x := range []struct {
		name string
		d    []api.Part
		s    string
		want []api.Part
	}{
		{"nothing", nil, "", nil},
		{"nothing, empty list", parts(), "", nil},
		{"keep", parts(keep(3)), "abc", parts(keep(3))},
		{"cut", parts(cut(2)), "ab", parts(put("ab"))},
		{"put", parts(put("ab")), "", parts(cut(2))},
		{"put and cut", parts(put("xyz"), cut(2)), "ab", parts(put("ab"), cut(3))},
		{"put again what is cut", parts(put("ab"), cut(2)), "ab", parts(put("ab"), cut(2))},
		{"within", parts(keep(1), put("xy"), cut(2), keep(1)), "abcd", parts(keep(1), put("bc"), cut(2), keep(1))},
		{"cuts, apart", parts(cut(1), keep(1), cut(2), keep(1), cut(1)), "abcdef",
			parts(put("a"), keep(1), put("cd"), keep(1), put("f"))},
		{"puts, apart", parts(put("x"), keep(1), put("yz"), keep(2), put("u")), "abc",
			parts(cut(1), keep(1), cut(2), keep(2), cut(1))},
		{"any bytes", parts(cut(1), keep(1), put("\xff"), cut(1)), "\xc3\xa9\x00", parts(put("\xc3"), keep(1), put("\x00"), cut(1))},
		{"500", parts(put(bytesOf(500)), cut(500)), strings.Repeat("y", 500), parts(put(strings.Repeat("y", 500)), cut(500))},
	} {
		if d, e := Of(x.d, x.s); e != api.OK || !slices.Equal(d, x.want) {
			t.Errorf("%s: %.60v %d, not %.60v", x.name, d, e, x.want)
		}
	}
}

func TestOfErrors(t *testing.T) {
	for _, x := range []struct {
		name string
		d    []api.Part
		n    int
		want api.Errno
	}{
		{"keep 0", parts(keep(0)), 0, api.ErrForm},
		{"put nothing", parts(put("")), 0, api.ErrForm},
		{"cut below 0", parts(cut(-1)), 1, api.ErrForm},
		{"wrong kind", parts(api.Part{Kind: 4, N: 1}), 1, api.ErrForm},
		{"a text too many", parts(api.Part{Kind: api.Cut, N: 1, Text: "a"}), 1, api.ErrForm},
		{"wrong place", parts(cut(1), put("a")), 1, api.ErrForm},
		{"wrong, and of another length", parts(keep(1), keep(1)), 7, api.ErrForm},
		{"501", parts(keep(501)), 501, api.ErrLarge},
		{"to 501", parts(keep(400), put(bytesOf(101))), 400, api.ErrLarge},
		{"of 501", parts(keep(400), cut(101)), 501, api.ErrLarge},
		{"large, and of another length", parts(cut(501)), 0, api.ErrLarge},
		{"most", parts(cut(math.MaxInt)), 0, api.ErrLarge},
		{"least", parts(cut(math.MinInt)), 0, api.ErrForm},
		{"1601", make([]api.Part, 1601), 0, api.ErrLarge},
		{"too short", parts(keep(1)), 0, api.ErrLen},
		{"too long", parts(keep(1)), 2, api.ErrLen},
		{"nothing, of something", nil, 1, api.ErrLen},
		{"too short for a cut", parts(keep(1), cut(2)), 2, api.ErrLen},
		{"as long as what it makes", parts(put("ab"), cut(1)), 2, api.ErrLen},
		{"a long text", parts(keep(500)), 2000, api.ErrLen},
	} {
		if d, e := Of(x.d, bytesOf(x.n)); e != x.want || d != nil {
			t.Errorf("%s: %.60v %d, not %d", x.name, d, e, x.want)
		}
	}
}

// everyDelta calls f with each delta of a text of n bytes that puts s, or nothing, at each
// place where it can.
func everyDelta(n int, s string, f func(d []api.Part)) {
	var grow func(l []api.Part, left int)
	grow = func(l []api.Part, left int) {
		if left == 0 {
			f(l)
			return
		}
		for _, more := range [][]api.Part{parts(keep(1)), parts(keep(1), put(s)), parts(cut(1))} {
			d, _ := part.Norm(append(slices.Clone(l), more...))
			grow(d, left-1)
		}
	}
	grow(nil, n)
	grow(parts(put(s)), n)
}

// kept tells which bytes of its text d keeps, and at which places of what it makes they then are.
func kept(d []api.Part) (from, to []int) {
	i, k := 0, 0
	for _, p := range d {
		if p.Kind == api.Keep {
			for j := range p.N {
				from, to = append(from, i+j), append(to, k+j)
			}
			k += p.N
		}
		i += p.N
		k += len(p.Text)
	}
	return from, to
}

func testTurned(t *testing.T, d []api.Part, s string) {
	t.Helper()
	made, _ := apply.Do(d, s)
	back, e := Of(d, s)
	if again, e2 := apply.Do(back, made); e != api.OK || e2 != api.OK || again != s {
		t.Fatalf("%v, %q: %v %d makes %q %d", d, s, back, e, again, e2)
	}
	from, to := kept(d)
	backFrom, backTo := kept(back)
	if !slices.Equal(from, backTo) || !slices.Equal(to, backFrom) {
		t.Fatalf("%v, %q: %v keeps other bytes", d, s, back)
	}
	if twice, e := Of(back, made); e != api.OK || !slices.Equal(twice, d) {
		t.Fatalf("%v, %q: turned twice it is %v %d", d, s, twice, e)
	}
}

func TestEveryShortDelta(t *testing.T) {
	for n := range 7 {
		for _, s := range []string{"a", "xy"} {
			everyDelta(n, s, func(d []api.Part) { testTurned(t, d, "abcdef"[:n]) })
		}
	}
}

func TestMostParts(t *testing.T) {
	s := strings.Repeat("abcde", 100)
	testTurned(t, times(250, keep(1), put("x"), cut(1)), s)
	testTurned(t, times(250, cut(1), keep(1)), s)
	testTurned(t, times(250, put("x"), keep(1)), s[:250])
}

// roomy has l, and behind it spare room with marks in it.
func roomy(l []api.Part) []api.Part {
	return append(slices.Clone(l), times(8, put("spare"))...)[:len(l)]
}

func whole(l []api.Part) []api.Part { return slices.Clone(l[:cap(l)]) }

func TestNothingHandedInIsChanged(t *testing.T) {
	everyDelta(4, "xy", func(l []api.Part) {
		d := roomy(l)
		was := whole(d)
		Of(d, "abcd")
		if !slices.Equal(whole(d), was) {
			t.Fatalf("%v is changed", l)
		}
	})
}

func TestAnswerIsNewMemory(t *testing.T) {
	text := bytesOf(40)
	d := roomy(parts(cut(40)))
	was := whole(d)
	back, _ := Of(d, text)
	if back[0].Text != text || unsafe.StringData(back[0].Text) == unsafe.StringData(text) {
		t.Error("the text that is put is the one that was handed in")
	}
	for i := range back[:cap(back)] {
		back[:cap(back)][i] = put("mine")
	}
	if !slices.Equal(whole(d), was) {
		t.Error("the answer shares memory with what was handed in")
	}
}
