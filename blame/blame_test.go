package blame

import (
	"math"
	"math/rand"
	"slices"
	"strings"
	"testing"

	"scrivenry/api"
	"scrivenry/part"
	"scrivenry/revs"
)

func keep(n int) api.Part { return api.Part{Kind: api.Keep, N: n} }

func cut(n int) api.Part { return api.Part{Kind: api.Cut, N: n} }

func put(s string) api.Part { return api.Part{Kind: api.Put, Text: s} }

func parts(l ...api.Part) []api.Part { return l }

func bytesOf(n int) string { return strings.Repeat("x", n) }

func rev(l ...api.Part) api.Rev { return api.Rev{Who: 3, Seq: 7, Delta: l} }

func list(l ...api.Rev) []api.Rev { return l }

func TestOf(t *testing.T) {
	for _, x := range []struct {
		name string
		base string
		l    []api.Rev
		want []int
	}{
		{"nothing", "", nil, nil},
		{"nothing done to nothing", "", list(rev(), rev()), nil},
		{"from the beginning", "abc", nil, []int{0, 0, 0}},
		{"kept", "abc", list(rev(keep(3)), rev(keep(3))), []int{0, 0, 0}},
		{"put", "", list(rev(put("abc"))), []int{1, 1, 1}},
		{"put by the second", "", list(rev(), rev(put("ab"))), []int{2, 2}},
		{"put ahead", "ab", list(rev(put("x"), keep(2))), []int{1, 0, 0}},
		{"put behind", "ab", list(rev(keep(2), put("x"))), []int{0, 0, 1}},
		{"put within", "ab", list(rev(keep(1), put("x"), keep(1))), []int{0, 1, 0}},
		{"put within what was put", "", list(rev(put("ab")), rev(keep(1), put("x"), keep(1))), []int{1, 2, 1}},
		{"cut", "abc", list(rev(cut(3))), nil},
		{"cut ahead", "abc", list(rev(put("xy"), keep(3)), rev(cut(1), keep(4))), []int{1, 0, 0, 0}},
		{"cut behind", "abc", list(rev(keep(3), put("xy")), rev(keep(4), cut(1))), []int{0, 0, 0, 1}},
		{"cut, and put again as it was", "abc", list(rev(keep(1), cut(1), keep(1)), rev(keep(1), put("b"), keep(1))), []int{0, 2, 0}},
		{"put for what is the same", "abc", list(rev(put("abc"), cut(3))), []int{1, 1, 1}},
		{"put and cut at one place", "abc", list(rev(keep(1), put("xy"), cut(1), keep(1))), []int{0, 1, 1, 0}},
		{"one after another", "", list(rev(put("a")), rev(keep(1), put("b")), rev(keep(2), put("c")), rev(put("d"), keep(3))), []int{4, 1, 2, 3}},
		{"all put by the last", "abc", list(rev(keep(3), put("x")), rev(put("yz"), cut(4))), []int{2, 2}},
		{"many parts", "abcde", list(rev(put("1"), cut(1), keep(1), put("2"), keep(1), put("3"), cut(1), keep(1), put("4"))), []int{1, 0, 1, 0, 1, 0, 1}},
		{"bytes, not runes", "\u00e9", list(rev(keep(1), put("\u20ac"), keep(1))), []int{0, 1, 1, 1, 0}},
		{"any bytes", "\xff", list(rev(put("\x00\xfe"), keep(1))), []int{1, 1, 0}},
	} {
		if l, e := Of(x.base, x.l); e != api.OK || !slices.Equal(l, x.want) {
			t.Errorf("%s: %v %d, not %v", x.name, l, e, x.want)
		}
	}
}

// Whose a byte is hangs on the revision's place, not on the hand that did it or its number.
func TestWhoAndSeqAreNotAsked(t *testing.T) {
	for _, r := range []api.Rev{{Who: 0, Seq: 0}, {Who: 7, Seq: 1<<31 - 1}, {Who: 2, Seq: 1}, {Who: 1, Seq: 2}} {
		a, b := r, r
		a.Delta, b.Delta = parts(put("a"), keep(1)), parts(keep(2), put("b"))
		if l, e := Of("x", list(a, b)); e != api.OK || !slices.Equal(l, []int{1, 0, 2}) {
			t.Errorf("%d %d: %v %d", r.Who, r.Seq, l, e)
		}
	}
}

func TestMostRevisions(t *testing.T) {
	var l []api.Rev
	want := make([]int, 436)
	for i := range 64 {
		d, _ := part.Norm(parts(keep(436+i), put("x")))
		l = append(l, rev(d...))
		want = append(want, i+1)
	}
	if got, e := Of(bytesOf(436), l); e != api.OK || !slices.Equal(got, want) {
		t.Errorf("%v %d", got, e)
	}
	swap := slices.Repeat(list(rev(put(bytesOf(500)), cut(500))), 64)
	if got, e := Of(bytesOf(500), swap); e != api.OK || !slices.Equal(got, slices.Repeat([]int{64}, 500)) {
		t.Errorf("%v %d", got, e)
	}
}

func TestErrors(t *testing.T) {
	form, long, arg := rev(keep(0)), rev(keep(3)), api.Rev{Who: 8}
	for _, x := range []struct {
		name string
		base string
		l    []api.Rev
		want api.Errno
	}{
		{"501 bytes", bytesOf(501), nil, api.ErrLarge},
		{"501 bytes ahead of a wrong bound", bytesOf(501), list(arg), api.ErrLarge},
		{"65", "", make([]api.Rev, 65), api.ErrLarge},
		{"65 that are wrong", "", slices.Repeat(list(arg), 65), api.ErrLarge},
		{"who", "", list(arg), api.ErrArg},
		{"who, less than 0", "", list(api.Rev{Who: -1}), api.ErrArg},
		{"seq", "", list(api.Rev{Seq: -1}), api.ErrArg},
		{"seq, too great", "", list(api.Rev{Seq: 1 << 31}), api.ErrArg},
		{"form", "", list(form), api.ErrForm},
		{"large", "", list(rev(keep(501))), api.ErrLarge},
		{"least", "", list(rev(cut(math.MinInt))), api.ErrForm},
		{"most", "", list(rev(cut(math.MaxInt))), api.ErrLarge},
		{"too long", "ab", list(long), api.ErrLen},
		{"too short", "abcd", list(long), api.ErrLen},
		{"the last", "abc", list(long, long, rev(keep(2))), api.ErrLen},
		{"the first that is wrong", "", list(long, form, arg), api.ErrLen},
		{"bounds ahead of form", "", list(api.Rev{Who: 8, Delta: form.Delta}), api.ErrArg},
		{"form ahead of length", "abc", list(rev(keep(1), keep(1))), api.ErrForm},
	} {
		if l, e := Of(x.base, x.l); e != x.want || l != nil {
			t.Errorf("%s: %v %d, not %d", x.name, l, e, x.want)
		}
		if e := revs.Check(x.base, x.l); e != x.want {
			t.Errorf("%s: but revs.Check tells %d", x.name, e)
		}
	}
}

// everyDelta calls f with each delta of a text of n bytes that puts s, or nothing, at each
// place where it can.
func everyDelta(n int, s string, f func(d []api.Part)) {
	var grow func(l []api.Part, left int)
	grow = func(l []api.Part, left int) {
		if left == 0 {
			f(l)
			return
		}
		for _, more := range [][]api.Part{parts(keep(1)), parts(keep(1), put(s)), parts(cut(1))} {
			d, _ := part.Norm(append(slices.Clone(l), more...))
			grow(d, left-1)
		}
	}
	grow(nil, n)
	grow(parts(put(s)), n)
}

// signed has l's deltas with each byte that revision i puts being i itself: then the text
// behind all of them tells whose its bytes are.
func signed(l []api.Rev) []api.Rev {
	var all []api.Rev
	for i, r := range l {
		d := slices.Clone(r.Delta)
		for j, p := range d {
			d[j].Text = strings.Repeat(string([]byte{byte(i + 1)}), len(p.Text))
		}
		all = append(all, rev(d...))
	}
	return all
}

func testHistory(t *testing.T, base string, l []api.Rev) {
	t.Helper()
	s, e := revs.Text(strings.Repeat("\x00", len(base)), signed(l), len(l))
	if e != api.OK {
		t.Fatalf("%v: %d", l, e)
	}
	var want []int
	for i := range len(s) {
		want = append(want, int(s[i]))
	}
	if got, e := Of(base, l); e != api.OK || !slices.Equal(got, want) {
		t.Fatalf("%q, %v: %v %d, not %v", base, l, got, e, want)
	}
}

func made(d []api.Part) int {
	_, out, _ := part.Sizes(d)
	return out
}

func TestEveryShortHistory(t *testing.T) {
	for n := range 3 {
		base := "ab"[:n]
		everyDelta(n, "a", func(a []api.Part) {
			testHistory(t, base, list(rev(a...)))
			everyDelta(made(a), "bb", func(b []api.Part) {
				testHistory(t, base, list(rev(a...), rev(b...)))
			})
		})
	}
}

// anyDelta makes a delta of n bytes by chance, that makes at most most.
func anyDelta(r *rand.Rand, n, most int) []api.Part {
	for {
		var l []api.Part
		for left := n; left > 0; {
			k := 1 + r.Intn(min(left, 1+r.Intn(20)))
			left -= k
			l = append(l, put(bytesOf(r.Intn(2)*r.Intn(12))), api.Part{Kind: api.Keep + 2*r.Intn(2), N: k})
		}
		d, e := part.Norm(append(l, put(bytesOf(r.Intn(9)))))
		if e == api.OK && made(d) <= most {
			return d
		}
	}
}

func TestLongHistories(t *testing.T) {
	r := rand.New(rand.NewSource(27))
	for range 300 {
		most := 1 + r.Intn(500)
		n := r.Intn(most + 1)
		base := bytesOf(n)
		var l []api.Rev
		for range r.Intn(65) {
			d := anyDelta(r, n, most)
			n = made(d)
			l = append(l, rev(d...))
		}
		testHistory(t, base, l)
	}
}

func TestNothingHandedInIsChanged(t *testing.T) {
	room := parts(keep(1), put("xy"), cut(2), keep(1), put("spare"), put("room"))
	l := list(rev(room[:4]...), rev(), rev(put("spare")))
	l[0].Delta, l[1].Delta = room[:4], roomy(parts(cut(1), keep(3)))
	roomWas, nextWas, lWas := slices.Clone(room), slices.Clone(l[1].Delta[:cap(l[1].Delta)]), slices.Clone(l)
	for n := range len(l) + 1 {
		Of("abcd", l[:n])
	}
	if !slices.Equal(room, roomWas) || !slices.Equal(l[1].Delta[:cap(l[1].Delta)], nextWas) {
		t.Error("a delta is changed")
	}
	for i, r := range l {
		if r.Who != lWas[i].Who || r.Seq != lWas[i].Seq || !slices.Equal(r.Delta, lWas[i].Delta) {
			t.Errorf("revision %d is changed", i+1)
		}
	}
}

// roomy has d, and behind it spare room with marks in it.
func roomy(d []api.Part) []api.Part {
	return append(slices.Clone(d), put("spare"), keep(9), put("room"))[:len(d)]
}

func TestAnswerIsNewMemory(t *testing.T) {
	for _, l := range [][]api.Rev{nil, list(rev(keep(3))), list(rev(put("ab"), keep(3)), rev(keep(5)))} {
		a, _ := Of("abc", l)
		was := slices.Clone(a)
		b, _ := Of("abc", l)
		for i := range b[:cap(b)] {
			b[:cap(b)][i] = -1
		}
		if !slices.Equal(a, was) {
			t.Errorf("%v: two answers share memory", l)
		}
	}
}
