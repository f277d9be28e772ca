package revs

import (
	"math"
	"math/rand"
	"slices"
	"strings"
	"testing"
	"unsafe"

	"scrivenry/api"
	"scrivenry/apply"
	"scrivenry/comp"
	"scrivenry/part"
)

func keep(n int) api.Part { return api.Part{Kind: api.Keep, N: n} }

func cut(n int) api.Part { return api.Part{Kind: api.Cut, N: n} }

func put(s string) api.Part { return api.Part{Kind: api.Put, Text: s} }

func parts(l ...api.Part) []api.Part { return l }

func bytesOf(n int) string { return strings.Repeat("x", n) }

// rev is a revision that is right but for, perhaps, its delta.
func rev(l ...api.Part) api.Rev { return api.Rev{Who: 1, Seq: 1, Delta: l} }

func list(l ...api.Rev) []api.Rev { return l }

func times(n int, r api.Rev) []api.Rev { return slices.Repeat(list(r), n) }

func TestOneTakesWhoAndSeqInTheirBounds(t *testing.T) {
	for who := range 8 {
		for _, seq := range []int{0, 1, 2, 1 << 16, 1<<31 - 2, 1<<31 - 1} {
			for _, d := range [][]api.Part{nil, parts(), parts(keep(1)), parts(put("a"), cut(2)), parts(put(bytesOf(500)), cut(500))} {
				if e := One(api.Rev{Who: who, Seq: seq, Delta: d}); e != api.OK {
					t.Errorf("%d %d %.40v: %d", who, seq, d, e)
				}
			}
		}
	}
}

// outOfBounds have a Who or a Seq that is too small or too great, and no delta.
func outOfBounds() []api.Rev {
	var l []api.Rev
	for _, who := range []int{-1, 8, 9, -8, 256, 1 << 32, math.MinInt, math.MaxInt} {
		l = append(l, api.Rev{Who: who}, api.Rev{Who: who, Seq: 5}, api.Rev{Who: who, Seq: -1})
	}
	for _, seq := range []int{-1, 1 << 31, 1<<31 + 1, 1 << 32, math.MinInt, math.MaxInt} {
		l = append(l, api.Rev{Seq: seq}, api.Rev{Who: 7, Seq: seq}, api.Rev{Who: 8, Seq: seq})
	}
	return l
}

// wrongDeltas have, each, an error of part.Check's, which is told whatever the text is.
func wrongDeltas() [][]api.Part {
	return [][]api.Part{
		parts(keep(0)), parts(keep(-1)), parts(put("")), parts(api.Part{Kind: 4, N: 1}), parts(api.Part{}),
		parts(keep(1), keep(1)), parts(cut(1), put("a")), parts(api.Part{Kind: api.Keep, N: 1, Text: "a"}),
		parts(keep(501)), parts(put(bytesOf(501))), parts(keep(400), cut(101)), parts(keep(400), put(bytesOf(101))),
		parts(cut(math.MaxInt)), parts(cut(math.MinInt)), make([]api.Part, 1600), make([]api.Part, 1601),
	}
}

func TestOneErrors(t *testing.T) {
	for _, r := range outOfBounds() {
		if e := One(r); e != api.ErrArg {
			t.Errorf("%d %d: %d", r.Who, r.Seq, e)
		}
		for _, d := range wrongDeltas() {
			r.Delta = d
			if e := One(r); e != api.ErrArg {
				t.Errorf("%d %d %.40v: %d", r.Who, r.Seq, d, e)
			}
		}
	}
	for _, d := range wrongDeltas() {
		want := part.Check(d)
		if e := One(rev(d...)); e != want || e == api.OK {
			t.Errorf("%.40v: %d, not %d", d, e, want)
		}
	}
}

type checkCase struct {
	name string
	base string
	l    []api.Rev
	want api.Errno
}

func rightCases() []checkCase {
	return []checkCase{
		{"no revision", "", nil, api.OK},
		{"no revision, an empty list", "abc", list(), api.OK},
		{"500 bytes", bytesOf(500), nil, api.OK},
		{"500 bytes, kept", bytesOf(500), list(rev(keep(500))), api.OK},
		{"500 bytes that come of it", "", list(rev(put(bytesOf(500))), rev(put(bytesOf(500)), cut(500))), api.OK},
		{"one", "abc", list(rev(keep(1), put("x"), cut(1), keep(1))), api.OK},
		{"64 of nothing", "", times(64, rev()), api.OK},
		{"64 of something", "abc", times(64, rev(keep(3))), api.OK},
		{"64 that grow and shrink", "", slices.Repeat(list(rev(put("ab")), rev(cut(2))), 32), api.OK},
		{"a hand's numbers in any order", "", list(api.Rev{Seq: 9}, api.Rev{Seq: 3}, api.Rev{Seq: 9}), api.OK},
	}
}

func wrongCases() []checkCase {
	form, large, long := rev(keep(0)), rev(keep(501)), rev(keep(3))
	arg := api.Rev{Who: 8}
	return []checkCase{
		{"501 bytes", bytesOf(501), nil, api.ErrLarge},
		{"501 bytes, kept", bytesOf(501), list(rev(keep(501))), api.ErrLarge},
		{"501 bytes ahead of a wrong bound", bytesOf(501), list(arg), api.ErrLarge},
		{"501 bytes ahead of a wrong form", bytesOf(501), list(form), api.ErrLarge},
		{"501 bytes ahead of a wrong length", bytesOf(501), list(rev(keep(500))), api.ErrLarge},
		{"65", "", times(65, rev()), api.ErrLarge},
		{"65 of 501 bytes", bytesOf(501), times(65, rev()), api.ErrLarge},
		{"65 with wrong bounds", "", times(65, arg), api.ErrLarge},
		{"65 with a wrong form", "", times(65, form), api.ErrLarge},
		{"65 with a wrong length", "", times(65, long), api.ErrLarge},
		{"1000", "", times(1000, rev()), api.ErrLarge},

		{"too long", "ab", list(long), api.ErrLen},
		{"too short", "abcd", list(long), api.ErrLen},
		{"nothing of something", "a", list(rev()), api.ErrLen},
		{"as long as what comes of it", "abc", list(rev(keep(1), put("xy"))), api.ErrLen},
		{"of the first text", "abc", list(rev(cut(3)), long), api.ErrLen},
		{"of the text that comes of itself", "abc", list(rev(keep(3), put("x")), rev(cut(2))), api.ErrLen},
		{"of the text two ahead", "abc", list(long, rev(put("x"), keep(3)), rev(keep(4)), long), api.ErrLen},
		{"the 64th", "", append(times(63, rev()), rev(keep(1))), api.ErrLen},
		{"the 64th, by its bounds", "", append(times(63, rev()), arg), api.ErrArg},
		{"the 64th, by its form", "", append(times(63, rev()), form), api.ErrForm},

		{"bounds ahead of length", "", list(api.Rev{Who: -1, Delta: long.Delta}), api.ErrArg},
		{"bounds ahead of form", "", list(api.Rev{Seq: -1, Delta: form.Delta}), api.ErrArg},
		{"form ahead of length", "abc", list(rev(keep(1), keep(1))), api.ErrForm},
		{"size ahead of length", "abc", list(large), api.ErrLarge},
		{"length ahead of the next one's bounds", "", list(long, arg), api.ErrLen},
		{"length ahead of the next one's form", "", list(long, form), api.ErrLen},
		{"form ahead of the next one's bounds", "", list(form, arg), api.ErrForm},
		{"size ahead of the next one's form", "", list(large, form), api.ErrLarge},
		{"form ahead of the next one's size", "", list(form, large), api.ErrForm},
		{"bounds ahead of the next one's length", "", list(arg, long), api.ErrArg},
	}
}

func TestCheck(t *testing.T) {
	for _, x := range append(rightCases(), wrongCases()...) {
		if e := Check(x.base, x.l); e != x.want {
			t.Errorf("%s: %d, not %d", x.name, e, x.want)
		}
	}
}

func TestCheckHasOnesErrorWhereverItStands(t *testing.T) {
	wrong := outOfBounds()
	for _, d := range wrongDeltas() {
		wrong = append(wrong, rev(d...))
	}
	for _, r := range wrong {
		want := One(r)
		for _, l := range [][]api.Rev{
			list(r),
			list(rev(keep(2), put("a")), r, rev(keep(700))),
			append(times(63, rev(keep(2))), r),
		} {
			if e := Check("ab", l); e != want {
				t.Errorf("%d %d %.40v: %d, not %d", r.Who, r.Seq, r.Delta, e, want)
			}
		}
	}
}

func TestCheckAsksForTheTextThatComesOfThoseAhead(t *testing.T) {
	for a := range 6 {
		for b := range 6 {
			for n := range 12 {
				d, _ := part.Norm(parts(cut(n)))
				want := api.ErrLen
				if n == a+b {
					want = api.OK
				}
				base, _ := part.Norm(parts(keep(a), put(bytesOf(b))))
				if e := Check(bytesOf(a), list(rev(base...), rev(d...))); e != want {
					t.Errorf("%d %d %d: %d, not %d", a, b, n, e, want)
				}
			}
		}
	}
}

// story goes from abc to the empty text and on.
func story() (string, []api.Rev, []string) {
	return "abc", list(
		rev(keep(1), put("X"), keep(2)),
		rev(cut(1), keep(1), cut(1), keep(1)),
		rev(keep(2)),
		rev(cut(2)),
		rev(),
		rev(put("\xff\x00")),
		rev(keep(1), put("\xc3\xa9"), keep(1)),
	), []string{"abc", "aXbc", "Xc", "Xc", "", "", "\xff\x00", "\xff\xc3\xa9\x00"}
}

func TestText(t *testing.T) {
	base, l, want := story()
	for k, w := range want {
		if s, e := Text(base, l, k); s != w || e != api.OK {
			t.Errorf("%d: %q %d, not %q", k, s, e, w)
		}
		if s, e := Text(base, l[:k], k); s != w || e != api.OK {
			t.Errorf("%d, and no more: %q %d, not %q", k, s, e, w)
		}
	}
	if s, e := Text("abc", nil, 0); s != "abc" || e != api.OK {
		t.Errorf("%q %d", s, e)
	}
	if s, e := Text("", nil, 0); s != "" || e != api.OK {
		t.Errorf("%q %d", s, e)
	}
}

func TestTextOfMost(t *testing.T) {
	var l []api.Rev
	for i := range 64 {
		l = append(l, rev(put(strings.Repeat(string(rune('0'+i)), 500)), cut(500)))
	}
	for k := range 65 {
		want := strings.Repeat(string(rune('0'+k-1)), 500)
		if s, e := Text(strings.Repeat("/", 500), l, k); s != want || e != api.OK {
			t.Errorf("%d: %.10q %d", k, s, e)
		}
	}
}

func farOff(n int) []int {
	return []int{-1, -2, n + 1, n + 2, 64, 65, math.MinInt, math.MaxInt, math.MinInt32, math.MaxInt32, 1 << 32}
}

func TestTextErrors(t *testing.T) {
	base, l, _ := story()
	for _, k := range farOff(len(l)) {
		if s, e := Text(base, l, k); s != "" || e != api.ErrArg {
			t.Errorf("%d: %q %d", k, s, e)
		}
	}
	for _, k := range []int{-1, 1, math.MinInt, math.MaxInt} {
		if s, e := Text("abc", nil, k); s != "" || e != api.ErrArg {
			t.Errorf("%d of none: %q %d", k, s, e)
		}
	}
	for _, x := range wrongCases() {
		// All of the history is looked at ahead of k, also what stands behind the k-th.
		for _, k := range append(farOff(len(x.l)), 0, len(x.l)) {
			if s, e := Text(x.base, x.l, k); s != "" || e != x.want {
				t.Errorf("%s, %d: %.20q %d, not %d", x.name, k, s, e, x.want)
			}
		}
	}
}

func TestBetween(t *testing.T) {
	base, l, _ := story()
	for _, x := range []struct {
		i, k int
		want []api.Part
	}{
		{0, 0, parts(keep(3))},
		{1, 1, parts(keep(4))},
		{2, 2, parts(keep(2))},
		{4, 4, nil},
		{5, 5, nil},
		{7, 7, parts(keep(4))},
		{0, 1, parts(keep(1), put("X"), keep(2))},
		{1, 2, parts(cut(1), keep(1), cut(1), keep(1))},
		{0, 2, parts(put("X"), cut(2), keep(1))},
		{0, 3, parts(put("X"), cut(2), keep(1))},
		{2, 3, parts(keep(2))},
		{3, 4, parts(cut(2))},
		{0, 4, parts(cut(3))},
		{1, 4, parts(cut(4))},
		{4, 5, nil},
		{4, 6, parts(put("\xff\x00"))},
		{5, 7, parts(put("\xff\xc3\xa9\x00"))},
		{6, 7, parts(keep(1), put("\xc3\xa9"), keep(1))},
		{3, 7, parts(put("\xff\xc3\xa9\x00"), cut(2))},
		{0, 7, parts(put("\xff\xc3\xa9\x00"), cut(3))},
	} {
		if d, e := Between(base, l, x.i, x.k); e != api.OK || !slices.Equal(d, x.want) {
			t.Errorf("%d %d: %v %d, not %v", x.i, x.k, d, e, x.want)
		}
	}
}

func TestBetweenOfNoRevisions(t *testing.T) {
	if d, e := Between("", nil, 0, 0); e != api.OK || len(d) != 0 {
		t.Errorf("%v %d", d, e)
	}
	for _, n := range []int{1, 2, 499, 500} {
		if d, e := Between(bytesOf(n), nil, 0, 0); e != api.OK || !slices.Equal(d, parts(keep(n))) {
			t.Errorf("%v %d", d, e)
		}
	}
}

func TestBetweenErrors(t *testing.T) {
	base, l, _ := story()
	n := len(l)
	for _, far := range farOff(n) {
		for _, x := range [][2]int{{far, far}, {far, 0}, {far, n}, {0, far}, {n, far}, {far, -1}, {-1, far}, {far, n + 1}, {n + 1, far}} {
			if d, e := Between(base, l, x[0], x[1]); d != nil || e != api.ErrArg {
				t.Errorf("%v: %v %d", x, d, e)
			}
		}
	}
	for i := range n + 1 {
		for k := range i {
			if d, e := Between(base, l, i, k); d != nil || e != api.ErrArg {
				t.Errorf("%d %d: %v %d", i, k, d, e)
			}
		}
	}
	for _, x := range wrongCases() {
		for _, k := range append(farOff(len(x.l)), 0, len(x.l)) {
			for _, i := range []int{0, -1, k, len(x.l) + 1} {
				if d, e := Between(x.base, x.l, i, k); d != nil || e != x.want {
					t.Errorf("%s, %d %d: %.40v %d, not %d", x.name, i, k, d, e, x.want)
				}
			}
		}
	}
}

func anyText(r *rand.Rand, n int) string {
	b := make([]byte, n)
	r.Read(b)
	return string(b)
}

// anyDelta makes a delta of n bytes by chance, that makes at most most.
func anyDelta(r *rand.Rand, n, most int) []api.Part {
	for {
		var l []api.Part
		for left := n; left > 0; {
			k := 1 + r.Intn(min(left, 1+r.Intn(20)))
			left -= k
			l = append(l, put(anyText(r, r.Intn(2)*r.Intn(12))), api.Part{Kind: api.Keep + 2*r.Intn(2), N: k})
		}
		d, e := part.Norm(append(l, put(anyText(r, r.Intn(2)*r.Intn(9)))))
		_, out, _ := part.Sizes(d)
		if e == api.OK && out <= most {
			return d
		}
	}
}

// anyHistory makes one by chance, with the text behind each number of its revisions.
func anyHistory(r *rand.Rand) (string, []api.Rev, []string) {
	most := 1 + r.Intn(500)
	base := anyText(r, r.Intn(most+1))
	texts := []string{base}
	var l []api.Rev
	s := base
	for range r.Intn(65) {
		d := anyDelta(r, len(s), most)
		s, _ = apply.Do(d, s)
		l = append(l, api.Rev{Who: r.Intn(8), Seq: r.Intn(1 << 31), Delta: d})
		texts = append(texts, s)
	}
	return base, l, texts
}

func TestTextOfAnyHistory(t *testing.T) {
	r := rand.New(rand.NewSource(24))
	for range 40 {
		base, l, texts := anyHistory(r)
		if e := Check(base, l); e != api.OK {
			t.Fatalf("%d", e)
		}
		for k, want := range texts {
			if s, e := Text(base, l, k); s != want || e != api.OK {
				t.Fatalf("%d: %q %d, not %q", k, s, e, want)
			}
		}
	}
}

// lastFirst makes one delta of those of l from the end on: whichever two are taken first, it
// is the same.
func lastFirst(l []api.Rev) []api.Part {
	d := l[len(l)-1].Delta
	for i := len(l) - 2; i >= 0; i-- {
		d, _ = comp.Of(l[i].Delta, d)
	}
	return d
}

func TestBetweenOfAnyHistory(t *testing.T) {
	r := rand.New(rand.NewSource(26))
	for range 200 {
		base, l, texts := anyHistory(r)
		for range 10 {
			k := r.Intn(len(texts))
			i := r.Intn(k + 1)
			d, e := Between(base, l, i, k)
			if s, e := apply.Do(d, texts[i]); s != texts[k] || e != api.OK {
				t.Fatalf("%d %d: %v makes %q %d, not %q", i, k, d, s, e, texts[k])
			}
			want, _ := part.Norm(parts(keep(len(texts[i]))))
			if i < k {
				want = lastFirst(l[i:k])
			}
			if e != api.OK || !slices.Equal(d, want) {
				t.Fatalf("%d %d: %v %d, not %v", i, k, d, e, want)
			}
		}
	}
}

// roomy has d, and behind it spare room with marks in it.
func roomy(d []api.Part) []api.Part {
	return append(slices.Clone(d), put("spare"), keep(9), put("room"))[:len(d)]
}

// roomyStory has story with spare room behind each of its lists.
func roomyStory() (string, []api.Rev) {
	base, l, _ := story()
	for i := range l {
		l[i].Delta = roomy(l[i].Delta)
	}
	return base, append(slices.Clone(l), rev(put("spare")), rev(keep(7)))[:len(l)]
}

// whole copies all that l has, spare room included.
func whole(l []api.Rev) []api.Rev {
	all := slices.Clone(l[:cap(l)])
	for i, r := range all {
		all[i].Delta = slices.Clone(r.Delta[:cap(r.Delta)])
	}
	return all
}

func sameRevs(a, b []api.Rev) bool {
	return slices.EqualFunc(a, b, func(x, y api.Rev) bool {
		return x.Who == y.Who && x.Seq == y.Seq && slices.Equal(x.Delta, y.Delta)
	})
}

func TestNothingHandedInIsChanged(t *testing.T) {
	base, l := roomyStory()
	was := whole(l)
	for n := range cap(l) + 1 {
		Check(base, l[:n])
		for k := range n + 2 {
			if k < n {
				One(l[:n][k])
			}
			Text(base, l[:n], k)
			for i := range k + 1 {
				Between(base, l[:n], i, k)
			}
		}
	}
	if !sameRevs(whole(l), was) {
		t.Errorf("%v is changed", was)
	}
}

// inside tells if the memory of s begins within that of t.
func inside(s, t string) bool {
	if s == "" || t == "" {
		return false
	}
	a, b := uintptr(unsafe.Pointer(unsafe.StringData(s))), uintptr(unsafe.Pointer(unsafe.StringData(t)))
	return a >= b && a < b+uintptr(len(t))
}

func TestTextAnswersNewMemory(t *testing.T) {
	text := bytesOf(40)
	for _, x := range []struct {
		base string
		l    []api.Rev
	}{
		{text, nil},
		{text, list(rev(keep(40)))},
		{text, list(rev(keep(40)), rev(cut(1), keep(39)))},
		{"", list(rev(put(text)))},
		{"a", list(rev(put(text), cut(1)), rev(keep(40)))},
	} {
		for k := range len(x.l) + 1 {
			s, _ := Text(x.base, x.l, k)
			again, _ := Text(x.base, x.l, k)
			if inside(s, text) || inside(s, x.base) || inside(s, again) {
				t.Errorf("%.60v, %d: the answer shares memory", x.l, k)
			}
		}
	}
}

func TestBetweenAnswersNewMemory(t *testing.T) {
	text := bytesOf(40)
	base := "abc"
	l := list(rev(roomy(parts(keep(3), put(text)))...), rev(keep(43)), rev(cut(3), keep(40)), rev(put(text), keep(40)))
	for i := range l {
		l[i].Delta = roomy(l[i].Delta)
	}
	was := whole(l)
	for k := range len(l) + 1 {
		for i := range k + 1 {
			d, _ := Between(base, l, i, k)
			again, _ := Between(base, l, i, k)
			kept := slices.Clone(d)
			for _, p := range d {
				if inside(p.Text, text) {
					t.Errorf("%d %d: the text that is put is the one that was handed in", i, k)
				}
			}
			for j := range again[:cap(again)] {
				again[:cap(again)][j] = put("mine")
			}
			if !slices.Equal(d, kept) || !sameRevs(whole(l), was) {
				t.Errorf("%d %d: the answer shares memory", i, k)
			}
		}
	}
}

func TestNothingHandedInIsKept(t *testing.T) {
	base, l := roomyStory()
	d, _ := Between(base, l, 0, 1)
	was := slices.Clone(d)
	for i := range l {
		for j := range l[i].Delta {
			l[i].Delta[j] = put("mine")
		}
	}
	if !slices.Equal(d, was) {
		t.Errorf("%v hangs on what was handed in when that is changed later", was)
	}
}
