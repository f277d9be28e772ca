package undo

import (
	"math"
	"math/rand"
	"slices"
	"strings"
	"testing"
	"unsafe"

	"scrivenry/api"
	"scrivenry/apply"
	"scrivenry/blame"
	"scrivenry/part"
	"scrivenry/revs"
	"scrivenry/spot"
)

func keep(n int) api.Part { return api.Part{Kind: api.Keep, N: n} }

func cut(n int) api.Part { return api.Part{Kind: api.Cut, N: n} }

func put(s string) api.Part { return api.Part{Kind: api.Put, Text: s} }

func parts(l ...api.Part) []api.Part { return l }

func bytesOf(n int) string { return strings.Repeat("x", n) }

func rev(l ...api.Part) api.Rev { return api.Rev{Who: 3, Seq: 7, Delta: l} }

func list(l ...api.Rev) []api.Rev { return l }

type undoCase struct {
	name string
	base string
	l    []api.Rev
	k    int
	want []api.Part
	text string
}

func lastCases() []undoCase {
	return []undoCase{
		{"nothing done to nothing", "", list(rev()), 1, nil, ""},
		{"kept", "abc", list(rev(keep(3))), 1, parts(keep(3)), "abc"},
		{"cut", "a", list(rev(cut(1))), 1, parts(put("a")), "a"},
		{"put", "", list(rev(put("ab"))), 1, parts(cut(2)), ""},
		{"put and cut", "abc", list(rev(keep(1), put("xy"), cut(1), keep(1))), 1, parts(keep(1), put("b"), cut(2), keep(1)), "abc"},
		{"cut at both ends", "abc", list(rev(cut(1), keep(1), cut(1))), 1, parts(put("a"), keep(1), put("c")), "abc"},
		{"the second", "abc", list(rev(put("x"), keep(3)), rev(keep(2), cut(2))), 2, parts(keep(2), put("bc")), "xabc"},
		{"the same put for what is cut", "abc", list(rev(put("abc"), cut(3))), 1, parts(put("abc"), cut(3)), "abc"},
		{"500 bytes", bytesOf(500), list(rev(put(strings.Repeat("y", 500)), cut(500))), 1, parts(put(bytesOf(500)), cut(500)), bytesOf(500)},
		{"any bytes", "\xff\x00\xc3", list(rev(keep(1), cut(2))), 1, parts(keep(1), put("\x00\xc3")), "\xff\x00\xc3"},
	}
}

func laterCases() []undoCase {
	return []undoCase{
		{"kept by the later one", "ab", list(rev(cut(1), keep(1)), rev(keep(1))), 1, parts(put("a"), keep(1)), "ab"},
		{"what it put is cut already", "", list(rev(put("ab")), rev(cut(2))), 1, nil, ""},
		{"part of what it put is cut already", "", list(rev(put("abc")), rev(keep(1), cut(1), keep(1))), 1, parts(cut(2)), ""},
		{"put within what it put", "", list(rev(put("ab")), rev(keep(1), put("X"), keep(1))), 1, parts(cut(1), keep(1), cut(1)), "X"},
		{"put where it cut: the later one's is ahead", "abc", list(rev(keep(1), cut(1), keep(1)), rev(keep(1), put("X"), keep(1))), 1,
			parts(keep(2), put("b"), keep(1)), "aXbc"},
		{"put ahead of all, where it cut", "ab", list(rev(cut(1), keep(1)), rev(put("X"), keep(1))), 1, parts(keep(1), put("a"), keep(1)), "Xab"},
		{"put behind all, where it cut", "ab", list(rev(keep(1), cut(1)), rev(keep(1), put("X"))), 1, parts(keep(2), put("b")), "aXb"},
		{"put again where it cut", "a", list(rev(cut(1)), rev(put("a"))), 1, parts(keep(1), put("a")), "aa"},
		{"all cut, on both sides of what it cut", "abc", list(rev(keep(1), cut(1), keep(1)), rev(cut(2))), 1, parts(put("b")), "b"},
		{"two that it cut come together", "abc", list(rev(cut(1), keep(1), cut(1)), rev(cut(1))), 1, parts(put("ac")), "ac"},
		{"the later one's text between two that it cut", "abc", list(rev(cut(1), keep(1), cut(1)), rev(put("X"), cut(1))), 1, parts(keep(1), put("ac")), "Xac"},
		{"behind the kept byte that is cut", "abc", list(rev(cut(1), keep(1), cut(1)), rev(put("X"), keep(1)), rev(keep(1), cut(1))), 1,
			parts(keep(1), put("ac")), "Xac"},
		// What is put comes ahead of what is cut there, and stays there as others put in between.
		{"moved ahead of what it put", "abc", list(rev(put("XY"), keep(1), cut(2)), rev(keep(2), cut(1))), 1, parts(put("bc"), cut(2)), "bc"},
		{"moved, and then put in between", "abc", list(rev(put("XY"), keep(1), cut(2)), rev(keep(2), cut(1)), rev(keep(1), put("Z"), keep(1))), 1,
			parts(put("bc"), cut(1), keep(1), cut(1)), "bcZ"},
		{"the one in the middle", "abc", list(rev(put("1"), keep(3)), rev(keep(2), put("2"), cut(1), keep(1)), rev(keep(4), put("3"))), 2,
			parts(keep(2), put("b"), cut(1), keep(2)), "1abc3"},
		{"ahead of it nothing is asked", "abc", list(rev(cut(3)), rev(put("de")), rev(keep(2), put("f"))), 2, parts(cut(2), keep(1)), "f"},
		{"an undoing is undone", "ab", list(rev(cut(1), keep(1)), rev(put("a"), keep(1))), 2, parts(cut(1), keep(1)), "b"},
	}
}

func TestOf(t *testing.T) {
	for _, x := range append(lastCases(), laterCases()...) {
		d, e := Of(x.base, x.l, x.k)
		if e != api.OK || !slices.Equal(d, x.want) {
			t.Errorf("%s: %.60v %d, not %.60v", x.name, d, e, x.want)
		}
		now, _ := revs.Text(x.base, x.l, len(x.l))
		if s, e := apply.Do(d, now); e != api.OK || s != x.text {
			t.Errorf("%s: %.60q %d, not %.60q", x.name, s, e, x.text)
		}
	}
}

// What is taken back hangs on the revision's place, not on the hand that did it or its number.
func TestWhoAndSeqAreNotAsked(t *testing.T) {
	for _, r := range []api.Rev{{Who: 0, Seq: 0}, {Who: 7, Seq: 1<<31 - 1}, {Who: 2, Seq: 1}, {Who: 1, Seq: 2}} {
		a, b := r, r
		a.Delta, b.Delta = parts(put("a"), keep(1)), parts(keep(2), put("b"))
		for k, want := range [][]api.Part{parts(cut(1), keep(2)), parts(keep(2), cut(1))} {
			if d, e := Of("x", list(a, b), k+1); e != api.OK || !slices.Equal(d, want) {
				t.Errorf("%d %d: %v %d", r.Who, r.Seq, d, e)
			}
		}
	}
}

func TestMostRevisions(t *testing.T) {
	var l []api.Rev
	for i := range 64 {
		d, _ := part.Norm(parts(keep(436+i), put("x")))
		l = append(l, rev(d...))
	}
	for k := 1; k <= 64; k++ {
		want, _ := part.Norm(parts(keep(435+k), cut(1), keep(64-k)))
		if d, e := Of(bytesOf(436), l, k); e != api.OK || !slices.Equal(d, want) {
			t.Errorf("%d: %v %d, not %v", k, d, e, want)
		}
	}
}

func TestTooLarge(t *testing.T) {
	all, half := bytesOf(500), bytesOf(250)
	for _, x := range []struct {
		name string
		base string
		l    []api.Rev
		k    int
		want api.Errno
	}{
		{"500 cut, and put by the last", all, list(rev(cut(500)), rev(put(all))), 2, api.OK},
		{"500 cut, and 500 put", all, list(rev(cut(500)), rev(put(all))), 1, api.ErrLarge},
		{"500 cut, and 1 put", all, list(rev(cut(500)), rev(put("a"))), 1, api.ErrLarge},
		{"499 cut, and 1 put", bytesOf(499), list(rev(cut(499)), rev(put("a"))), 1, api.OK},
		{"250 cut, and 250 put", half, list(rev(cut(250)), rev(put(half))), 1, api.OK},
		{"250 cut, and 251 put", half, list(rev(cut(250)), rev(put(half+"a"))), 1, api.ErrLarge},
		{"1 cut, and 1 put to 499", all, list(rev(keep(499), cut(1)), rev(put("a"), keep(499))), 1, api.ErrLarge},
		{"1 cut, and 1 put for another", all, list(rev(keep(499), cut(1)), rev(put("a"), cut(1), keep(498))), 1, api.OK},
		{"500 put for others, and 1 put for one of these", all, list(rev(put(all), cut(500)), rev(put("a"), cut(1), keep(499))), 1, api.ErrLarge},
		{"500 cut, and put, and cut again", all, list(rev(cut(500)), rev(put(all)), rev(cut(500))), 1, api.ErrLarge},
		{"500 put, which is cut again", all, list(rev(cut(500)), rev(put(all)), rev(cut(500))), 2, api.OK},
		{"500 cut, twice", all, list(rev(cut(500)), rev(put(all)), rev(cut(500))), 3, api.OK},
		{"the last of many", all, append(list(rev(cut(500))), append(slices.Repeat(list(rev()), 62), rev(put("a")))...), 1, api.ErrLarge},
	} {
		d, e := Of(x.base, x.l, x.k)
		if e != x.want || e != api.OK && d != nil {
			t.Errorf("%s: %.60v %d, not %d", x.name, d, e, x.want)
		}
	}
}

func farOff(n int) []int {
	return []int{0, -1, -2, n + 1, n + 2, 65, math.MinInt, math.MinInt + 1, math.MaxInt, math.MinInt32, math.MaxInt32, 1 << 32}
}

func TestArgErrors(t *testing.T) {
	for n := range 4 {
		l := slices.Repeat(list(rev(put("a"), cut(1))), n)
		for _, k := range farOff(n) {
			if d, e := Of("b", l, k); d != nil || e != api.ErrArg {
				t.Errorf("%d of %d: %v %d", k, n, d, e)
			}
		}
	}
	// k is looked at ahead of what would be too large.
	l := list(rev(cut(500)), rev(put("a")))
	for _, k := range farOff(2) {
		if d, e := Of(bytesOf(500), l, k); d != nil || e != api.ErrArg {
			t.Errorf("%d: %v %d", k, d, e)
		}
	}
}

func TestHistoryErrors(t *testing.T) {
	form, long, arg := rev(keep(0)), rev(keep(3)), api.Rev{Who: 8}
	for _, x := range []struct {
		name string
		base string
		l    []api.Rev
		want api.Errno
	}{
		{"501 bytes", bytesOf(501), nil, api.ErrLarge},
		{"501 bytes ahead of a wrong bound", bytesOf(501), list(arg), api.ErrLarge},
		{"65", "", make([]api.Rev, 65), api.ErrLarge},
		{"65 that are wrong", "", slices.Repeat(list(arg), 65), api.ErrLarge},
		{"who", "", list(arg), api.ErrArg},
		{"seq", "", list(api.Rev{Seq: -1}), api.ErrArg},
		{"form", "", list(form), api.ErrForm},
		{"large", "", list(rev(keep(501))), api.ErrLarge},
		{"least", "", list(rev(cut(math.MinInt))), api.ErrForm},
		{"most", "", list(rev(cut(math.MaxInt))), api.ErrLarge},
		{"too long", "ab", list(long), api.ErrLen},
		{"too short", "abcd", list(long), api.ErrLen},
		{"the last", "abc", list(long, long, rev(keep(2))), api.ErrLen},
		{"the first that is wrong", "", list(long, form, arg), api.ErrLen},
		{"ahead of what would be too large", bytesOf(500), list(rev(cut(500)), rev(put("a")), form), api.ErrForm},
	} {
		// All of the history is looked at ahead of k, also what stands ahead of the k-th.
		for _, k := range append(farOff(len(x.l)), 1, len(x.l)) {
			if d, e := Of(x.base, x.l, k); e != x.want || d != nil {
				t.Errorf("%s, %d: %v %d, not %d", x.name, k, d, e, x.want)
			}
		}
	}
}

// again is a piece of the text that k cut, and the place where it is to be put again.
type again struct {
	at   int
	text string
}

// model goes along with a history byte by byte: mine tells which bytes of the text are k's.
type model struct {
	mine []bool
	back []again
}

// begin has what k cut and put.
func begin(d []api.Part, s string) model {
	var m model
	for _, p := range d {
		switch p.Kind {
		case api.Keep:
			m.mine = append(m.mine, make([]bool, p.N)...)
		case api.Put:
			m.mine = append(m.mine, slices.Repeat([]bool{true}, len(p.Text))...)
		case api.Cut:
			m.back = append(m.back, again{len(m.mine), s[:p.N]})
		}
		s = s[p.N:]
	}
	m.moveAhead()
	return m
}

// moveAhead brings what is put again ahead of k's own bytes that stand right ahead of it.
func (m *model) moveAhead() {
	for i := range m.back {
		for m.back[i].at > 0 && m.mine[m.back[i].at-1] {
			m.back[i].at--
		}
	}
}

// after goes on by a later revision: what it puts at a place is ahead of what is put again.
func (m *model) after(d []api.Part) {
	for i := range m.back {
		m.back[i].at, _ = spot.Of(d, m.back[i].at, true)
	}
	var now []bool
	for _, p := range d {
		if p.Kind == api.Keep {
			now = append(now, m.mine[:p.N]...)
		}
		now = append(now, make([]bool, len(p.Text))...)
		m.mine = m.mine[p.N:]
	}
	m.mine = now
	m.moveAhead()
}

// size tells how many bytes the text has without what k did.
func (m *model) size() int {
	n := 0
	for _, a := range m.back {
		n += len(a.text)
	}
	for _, own := range m.mine {
		if !own {
			n++
		}
	}
	return n
}

// delta does without part.Norm, which would hide a place that is wrong by moving it.
func (m *model) delta() []api.Part {
	var l []api.Part
	add := func(p api.Part) {
		if n := len(l) - 1; n >= 0 && l[n].Kind == p.Kind {
			l[n].N += p.N
			l[n].Text += p.Text
			return
		}
		l = append(l, p)
	}
	for at := range len(m.mine) + 1 {
		for _, a := range m.back {
			if a.at == at {
				add(put(a.text))
			}
		}
		if at < len(m.mine) && m.mine[at] {
			add(cut(1))
		} else if at < len(m.mine) {
			add(keep(1))
		}
	}
	return l
}

// expect tells what undo of k must answer, as the model has it.
func expect(base string, l []api.Rev, k int) ([]api.Part, api.Errno) {
	s, _ := revs.Text(base, l, k-1)
	m := begin(l[k-1].Delta, s)
	for _, r := range l[k:] {
		m.after(r.Delta)
		if m.size() > api.MaxDoc {
			return nil, api.ErrLarge
		}
	}
	return m.delta(), api.OK
}

func testHistory(t *testing.T, base string, l []api.Rev) (large int) {
	t.Helper()
	for k := 1; k <= len(l); k++ {
		want, wantE := expect(base, l, k)
		d, e := Of(base, l, k)
		if e != wantE || !slices.Equal(d, want) || e != api.OK && d != nil {
			t.Fatalf("%q, %v, %d: %v %d, not %v %d", base, l, k, d, e, want, wantE)
		}
		if e != api.OK {
			large++
			continue
		}
		testWhose(t, base, l, k, d)
	}
	return large
}

// testWhose holds d against blame: of all bytes just those that k put are cut.
func testWhose(t *testing.T, base string, l []api.Rev, k int, d []api.Part) {
	t.Helper()
	whose, _ := blame.Of(base, l)
	if e := apply.Fits(d, len(whose)); e != api.OK {
		t.Fatalf("%q, %v, %d: %v does not fit: %d", base, l, k, d, e)
	}
	at := 0
	for _, p := range d {
		for range p.N {
			if (whose[at] == k) != (p.Kind == api.Cut) {
				t.Fatalf("%q, %v, %d: %v, but byte %d is of %d", base, l, k, d, at, whose[at])
			}
			at++
		}
	}
}

// everyDelta calls f with each delta of a text of n bytes that puts s, or nothing, at each
// place where it can.
func everyDelta(n int, s string, f func(d []api.Part)) {
	var grow func(l []api.Part, left int)
	grow = func(l []api.Part, left int) {
		if left == 0 {
			f(l)
			return
		}
		for _, more := range [][]api.Part{parts(keep(1)), parts(keep(1), put(s)), parts(cut(1))} {
			d, _ := part.Norm(append(slices.Clone(l), more...))
			grow(d, left-1)
		}
	}
	grow(nil, n)
	grow(parts(put(s)), n)
}

func made(d []api.Part) int {
	_, out, _ := part.Sizes(d)
	return out
}

func TestEveryShortHistory(t *testing.T) {
	for n := range 4 {
		base := "abc"[:n]
		everyDelta(n, "x", func(a []api.Part) {
			testHistory(t, base, list(rev(a...)))
			if made(a) > 4 {
				return
			}
			everyDelta(made(a), "y", func(b []api.Part) {
				testHistory(t, base, list(rev(a...), rev(b...)))
				if made(b) > 2 {
					return
				}
				everyDelta(made(b), "z", func(c []api.Part) {
					testHistory(t, base, list(rev(a...), rev(b...), rev(c...)))
				})
			})
		})
	}
}

func anyText(r *rand.Rand, n int) string {
	b := make([]byte, n)
	r.Read(b)
	return string(b)
}

// anyDelta makes a delta of n bytes by chance, that makes at most most.
func anyDelta(r *rand.Rand, n, most int) []api.Part {
	for {
		var l []api.Part
		for left := n; left > 0; {
			k := 1 + r.Intn(min(left, 1+r.Intn(20)))
			left -= k
			l = append(l, put(anyText(r, r.Intn(2)*r.Intn(12))), api.Part{Kind: api.Keep + 2*r.Intn(2), N: k})
		}
		d, e := part.Norm(append(l, put(anyText(r, r.Intn(2)*r.Intn(9)))))
		if e == api.OK && made(d) <= most {
			return d
		}
	}
}

func TestLongHistories(t *testing.T) {
	r := rand.New(rand.NewSource(28))
	large := 0
	for range 40 {
		most := 1 + r.Intn(500)
		base := anyText(r, r.Intn(most+1))
		n := len(base)
		var l []api.Rev
		for range r.Intn(65) {
			d := anyDelta(r, n, most)
			n = made(d)
			l = append(l, rev(d...))
		}
		large += testHistory(t, base, l)
	}
	if large == 0 {
		t.Error("none was too large: chance should have made some that are")
	}
}

func TestMostParts(t *testing.T) {
	base := bytesOf(500)
	l := list(
		rev(slices.Repeat(parts(keep(1), put("a"), cut(1)), 250)...),
		rev(slices.Repeat(parts(put("b"), cut(1), keep(1)), 250)...),
	)
	testHistory(t, base, l)
	testHistory(t, base, append(l, rev(slices.Repeat(parts(cut(1), keep(1)), 250)...)))
	testHistory(t, base, append(l, rev(put(base), cut(500))))
}

// roomy has d, and behind it spare room with marks in it.
func roomy(d []api.Part) []api.Part {
	return append(slices.Clone(d), put("spare"), keep(9), put("room"))[:len(d)]
}

// roomyStory has spare room behind each of its lists.
func roomyStory(text string) []api.Rev {
	l := list(
		rev(keep(1), put(text), cut(1), keep(1)), rev(keep(2+len(text))), rev(cut(2), keep(len(text)), put("X")),
		rev(put(text), keep(1+len(text))), rev(keep(1), cut(2*len(text))), rev(put("spare")), rev(keep(7)),
	)
	for i := range l {
		l[i].Delta = roomy(l[i].Delta)
	}
	return l[:5]
}

// whole copies all that l has, spare room included.
func whole(l []api.Rev) []api.Rev {
	all := slices.Clone(l[:cap(l)])
	for i, r := range all {
		all[i].Delta = slices.Clone(r.Delta[:cap(r.Delta)])
	}
	return all
}

func sameRevs(a, b []api.Rev) bool {
	return slices.EqualFunc(a, b, func(x, y api.Rev) bool {
		return x.Who == y.Who && x.Seq == y.Seq && slices.Equal(x.Delta, y.Delta)
	})
}

func TestNothingHandedInIsChanged(t *testing.T) {
	l := roomyStory("text")
	was := whole(l)
	for n := range cap(l) + 1 {
		for k := range n + 2 {
			Of("abc", l[:n], k)
		}
	}
	if !sameRevs(whole(l), was) {
		t.Errorf("%v is changed", was)
	}
}

// inside tells if the memory of s begins within that of t.
func inside(s, t string) bool {
	if s == "" || t == "" {
		return false
	}
	a, b := uintptr(unsafe.Pointer(unsafe.StringData(s))), uintptr(unsafe.Pointer(unsafe.StringData(t)))
	return a >= b && a < b+uintptr(len(t))
}

func TestAnswerIsNewMemory(t *testing.T) {
	base, text := strings.Repeat("b", 3), bytesOf(40)
	l := roomyStory(text)
	was := whole(l)
	for n := range len(l) + 1 {
		for k := 1; k <= n; k++ {
			d, _ := Of(base, l[:n], k)
			other, _ := Of(base, l[:n], k)
			kept := slices.Clone(d)
			for _, p := range d {
				if inside(p.Text, text) || inside(p.Text, base) {
					t.Errorf("%d of %d: the text that is put is the one that was handed in", k, n)
				}
			}
			for j := range other[:cap(other)] {
				other[:cap(other)][j] = put("mine")
			}
			if !slices.Equal(d, kept) || !sameRevs(whole(l), was) {
				t.Errorf("%d of %d: the answer shares memory", k, n)
			}
		}
	}
}

func TestNothingHandedInIsKept(t *testing.T) {
	l := roomyStory("text")
	d, _ := Of("abc", l, 1)
	was := slices.Clone(d)
	for i := range l {
		for j := range l[i].Delta {
			l[i].Delta[j] = put("mine")
		}
	}
	if !slices.Equal(d, was) {
		t.Errorf("%v hangs on what was handed in when that is changed later", was)
	}
}
