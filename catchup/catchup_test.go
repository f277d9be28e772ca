package catchup

import (
	"math"
	"math/rand"
	"slices"
	"strings"
	"testing"
	"unsafe"

	"scrivenry/api"
	"scrivenry/apply"
	"scrivenry/comp"
	"scrivenry/part"
	"scrivenry/revs"
)

func keep(n int) api.Part { return api.Part{Kind: api.Keep, N: n} }

func cut(n int) api.Part { return api.Part{Kind: api.Cut, N: n} }

func put(s string) api.Part { return api.Part{Kind: api.Put, Text: s} }

func parts(l ...api.Part) []api.Part { return l }

func bytesOf(n int) string { return strings.Repeat("x", n) }

func rev(l ...api.Part) api.Rev { return api.Rev{Who: 3, Seq: 7, Delta: l} }

func list(l ...api.Rev) []api.Rev { return l }

type lateCase struct {
	name                  string
	base                  string
	l                     []api.Rev
	r                     int
	mine                  []api.Part
	theirs, ahead, behind []api.Part
	text                  string
}

func fewCases() []lateCase {
	return []lateCase{
		{"nothing", "", nil, 0, nil, nil, nil, nil, ""},
		{"nothing, an empty list", "", list(), 0, parts(), nil, nil, nil, ""},
		{"not late", "abc", nil, 0, parts(keep(3), put("Y")), parts(keep(3)), parts(keep(3), put("Y")), parts(keep(4)), "abcY"},
		{"not late, behind some", "abc", list(rev(keep(1), cut(2))), 1, parts(put("Y"), cut(1)), parts(keep(1)), parts(put("Y"), cut(1)), parts(keep(1)), "Y"},
		{"not late, of nothing", "a", list(rev(cut(1))), 1, parts(put("Y")), nil, parts(put("Y")), parts(keep(1)), "Y"},
		{"nothing of its own", "abc", list(rev(put("X"), keep(3))), 0, parts(keep(3)), parts(put("X"), keep(3)), parts(keep(4)), parts(put("X"), keep(3)), "Xabc"},
		{"its own text left to do", "ab", list(rev(put("X"), keep(2))), 0, parts(keep(2), put("Y")),
			parts(put("X"), keep(2)), parts(keep(3), put("Y")), parts(put("X"), keep(3)), "XabY"},
		{"both put: theirs is ahead", "", list(rev(put("X"))), 0, parts(put("Y")), parts(put("X")), parts(keep(1), put("Y")), parts(put("X"), keep(1)), "XY"},
		{"both put the same", "", list(rev(put("X"))), 0, parts(put("X")), parts(put("X")), parts(keep(1), put("X")), parts(put("X"), keep(1)), "XX"},
		{"both cut", "abc", list(rev(cut(2), keep(1))), 0, parts(keep(1), cut(2)), parts(cut(2), keep(1)), parts(cut(1)), parts(cut(1)), ""},
		{"it cuts, they keep", "ab", list(rev(keep(2))), 0, parts(cut(2)), parts(keep(2)), parts(cut(2)), nil, ""},
		{"they cut, it keeps", "ab", list(rev(cut(2))), 0, parts(keep(2)), parts(cut(2)), nil, parts(cut(2)), ""},
		{"it puts within what they cut", "ab", list(rev(cut(2))), 0, parts(keep(1), put("Y"), keep(1)),
			parts(cut(2)), parts(put("Y")), parts(cut(1), keep(1), cut(1)), "Y"},
		{"they put within what it cuts", "ab", list(rev(keep(1), put("X"), keep(1))), 0, parts(cut(2)),
			parts(keep(1), put("X"), keep(1)), parts(cut(1), keep(1), cut(1)), parts(put("X")), "X"},
		{"any bytes", "\xff", list(rev(put("\x00"), keep(1))), 0, parts(put("\xc3\xa9"), cut(1)),
			parts(put("\x00"), keep(1)), parts(keep(1), put("\xc3\xa9"), cut(1)), parts(put("\x00"), keep(2)), "\x00\xc3\xa9"},
	}
}

func manyCases() []lateCase {
	// abc, aXbc, Xc, XcZ
	l := list(rev(keep(1), put("X"), keep(2)), rev(cut(1), keep(1), cut(1), keep(1)), rev(keep(2), put("Z")))
	return []lateCase{
		{"from the beginning", "abc", l, 0, parts(keep(3), put("Y")),
			parts(put("X"), cut(2), keep(1), put("Z")), parts(keep(3), put("Y")), parts(put("X"), cut(2), keep(1), put("Z"), keep(1)), "XcZY"},
		{"behind the first", "abc", l, 1, parts(cut(2), keep(2)),
			parts(cut(1), keep(1), cut(1), keep(1), put("Z")), parts(cut(1), keep(2)), parts(cut(1), keep(1), put("Z")), "cZ"},
		{"behind the second", "abc", l, 2, parts(keep(1), put("Y"), keep(1)),
			parts(keep(2), put("Z")), parts(keep(1), put("Y"), keep(2)), parts(keep(3), put("Z")), "XYcZ"},
		{"behind all", "abc", l, 3, parts(cut(1), keep(1), cut(1)), parts(keep(3)), parts(cut(1), keep(1), cut(1)), parts(keep(1)), "c"},
		// One by one they would make aYXc: all as one, what they put is ahead of what they cut.
		{"theirs is one delta", "abc", list(rev(keep(2), put("X"), keep(1)), rev(keep(1), cut(1), keep(2))), 0, parts(keep(1), put("Y"), keep(2)),
			parts(keep(1), put("X"), cut(1), keep(1)), parts(keep(2), put("Y"), keep(1)), parts(keep(1), put("X"), keep(1), cut(1), keep(1)), "aXYc"},
		{"put and cut again", "ab", list(rev(keep(1), put(bytesOf(498)), keep(1)), rev(keep(1), cut(498), keep(1))), 0, parts(keep(1), put("YY"), keep(1)),
			parts(keep(2)), parts(keep(1), put("YY"), keep(1)), parts(keep(4)), "aYYb"},
	}
}

func TestOf(t *testing.T) {
	for _, x := range append(fewCases(), manyCases()...) {
		theirs, ahead, behind, e := Of(x.base, x.l, x.r, x.mine)
		if e != api.OK || !slices.Equal(theirs, x.theirs) || !slices.Equal(ahead, x.ahead) || !slices.Equal(behind, x.behind) {
			t.Errorf("%s: %v, %v, %v %d, not %v, %v, %v", x.name, theirs, ahead, behind, e, x.theirs, x.ahead, x.behind)
		}
		now, _ := revs.Text(x.base, x.l, len(x.l))
		if s, e := apply.Do(ahead, now); e != api.OK || s != x.text {
			t.Errorf("%s: %q %d, not %q", x.name, s, e, x.text)
		}
	}
}

// What is left to do hangs on the revisions' places, not on the hands or their numbers.
func TestWhoAndSeqAreNotAsked(t *testing.T) {
	for _, r := range []api.Rev{{Who: 0, Seq: 0}, {Who: 7, Seq: 1<<31 - 1}, {Who: 2, Seq: 1}} {
		r.Delta = parts(put("X"))
		_, ahead, behind, e := Of("", list(r), 0, parts(put("Y")))
		if e != api.OK || !slices.Equal(ahead, parts(keep(1), put("Y"))) || !slices.Equal(behind, parts(put("X"), keep(1))) {
			t.Errorf("%d %d: %v, %v %d", r.Who, r.Seq, ahead, behind, e)
		}
	}
}

type wrongCase struct {
	name string
	base string
	l    []api.Rev
	r    int
	mine []api.Part
	want api.Errno
}

func testWrong(t *testing.T, x wrongCase) {
	t.Helper()
	theirs, ahead, behind, e := Of(x.base, x.l, x.r, x.mine)
	if e != x.want || theirs != nil || ahead != nil || behind != nil {
		t.Errorf("%s, %d: %.60v, %.60v, %.60v %d, not %d", x.name, x.r, theirs, ahead, behind, e, x.want)
	}
}

func farOff(n int) []int {
	return []int{-1, -2, n + 1, n + 2, 65, math.MinInt, math.MinInt + 1, math.MaxInt, math.MinInt32, math.MaxInt32, 1 << 32}
}

func TestMineErrors(t *testing.T) {
	l := list(rev(keep(3), put("X")), rev(keep(4), put("XX")))
	for _, x := range []wrongCase{
		{"form", "abc", l, 0, parts(keep(0)), api.ErrForm},
		{"form ahead of length", "abc", l, 0, parts(keep(1), keep(1)), api.ErrForm},
		{"put behind cut", "abc", l, 0, parts(cut(3), put("a")), api.ErrForm},
		{"no kind", "abc", l, 0, parts(api.Part{}), api.ErrForm},
		{"least", "abc", l, 0, parts(keep(math.MinInt)), api.ErrForm},
		{"most", "abc", l, 0, parts(keep(math.MaxInt)), api.ErrLarge},
		{"large ahead of length", "abc", l, 0, parts(keep(501)), api.ErrLarge},
		{"large together", "abc", l, 0, parts(keep(400), cut(101)), api.ErrLarge},
		{"1601 parts", "abc", l, 0, make([]api.Part, 1601), api.ErrLarge},
		{"nothing", "abc", l, 0, nil, api.ErrLen},
		{"too short", "abc", l, 0, parts(keep(2)), api.ErrLen},
		{"too long", "abc", l, 0, parts(cut(4)), api.ErrLen},
		{"of the text behind the next", "abc", l, 0, parts(keep(4)), api.ErrLen},
		{"of the first text", "abc", l, 1, parts(keep(3)), api.ErrLen},
		{"of the last text", "abc", l, 1, parts(keep(6)), api.ErrLen},
		{"of the text ahead of the last", "abc", l, 2, parts(keep(4)), api.ErrLen},
		{"as long as what comes of it", "abc", l, 0, parts(keep(1), put("xy")), api.ErrLen},
		{"something of nothing", "", nil, 0, parts(keep(1)), api.ErrLen},
		{"something of what was cut", "a", list(rev(cut(1))), 1, parts(keep(1)), api.ErrLen},
		{"length ahead of size", "", list(rev(put(bytesOf(500)))), 0, parts(keep(1), put(bytesOf(400))), api.ErrLen},
	} {
		testWrong(t, x)
	}
}

func TestArgErrors(t *testing.T) {
	for n := range 4 {
		l := slices.Repeat(list(rev(put("a"), cut(1))), n)
		for _, r := range farOff(n) {
			testWrong(t, wrongCase{"right", "b", l, r, parts(keep(1)), api.ErrArg})
			// r is looked at ahead of mine.
			testWrong(t, wrongCase{"form", "b", l, r, parts(keep(0)), api.ErrArg})
			testWrong(t, wrongCase{"large", "b", l, r, parts(keep(501)), api.ErrArg})
			testWrong(t, wrongCase{"length", "b", l, r, parts(keep(2)), api.ErrArg})
			testWrong(t, wrongCase{"nothing", "b", l, r, nil, api.ErrArg})
		}
	}
}

func TestHistoryErrors(t *testing.T) {
	form, long, arg := rev(keep(0)), rev(keep(3)), api.Rev{Who: 8}
	for _, x := range []wrongCase{
		{"501 bytes", bytesOf(501), nil, 0, nil, api.ErrLarge},
		{"501 bytes ahead of a wrong bound", bytesOf(501), list(arg), 0, nil, api.ErrLarge},
		{"65", "", make([]api.Rev, 65), 0, nil, api.ErrLarge},
		{"65 that are wrong", "", slices.Repeat(list(arg), 65), 0, nil, api.ErrLarge},
		{"who", "", list(arg), 0, nil, api.ErrArg},
		{"seq", "", list(api.Rev{Seq: -1}), 0, nil, api.ErrArg},
		{"form", "", list(form), 0, nil, api.ErrForm},
		{"large", "", list(rev(keep(501))), 0, nil, api.ErrLarge},
		{"least", "", list(rev(cut(math.MinInt))), 0, nil, api.ErrForm},
		{"most", "", list(rev(cut(math.MaxInt))), 0, nil, api.ErrLarge},
		{"too long", "ab", list(long), 0, nil, api.ErrLen},
		{"too short", "abcd", list(long), 0, nil, api.ErrLen},
		{"the last", "abc", list(long, long, rev(keep(2))), 0, nil, api.ErrLen},
		{"the first that is wrong", "", list(long, form, arg), 0, nil, api.ErrLen},
	} {
		// All of the history is looked at, also what stands ahead of r; and ahead of r and mine.
		for _, r := range append(farOff(len(x.l)), 0, len(x.l)) {
			for _, mine := range [][]api.Part{nil, parts(keep(0)), parts(keep(501)), parts(keep(2)), parts(keep(3))} {
				x.r, x.mine = r, mine
				testWrong(t, x)
			}
		}
	}
}

func TestTooLarge(t *testing.T) {
	for _, x := range []wrongCase{
		{"501 together", "", list(rev(put(bytesOf(300)))), 0, parts(put(bytesOf(201))), api.ErrLarge},
		{"501 together, by two", "", list(rev(put(bytesOf(150))), rev(put(bytesOf(150)), keep(150))), 0, parts(put(bytesOf(201))), api.ErrLarge},
		{"501 together, with what is kept", bytesOf(101), list(rev(put(bytesOf(200)), keep(101))), 0, parts(keep(101), put(bytesOf(200))), api.ErrLarge},
		{"501 together, of 500", bytesOf(500), list(rev(put(bytesOf(300)), cut(500))), 0, parts(put(bytesOf(201)), cut(500)), api.ErrLarge},
		{"1000 together", "", list(rev(put(bytesOf(500)))), 0, parts(put(bytesOf(500))), api.ErrLarge},
	} {
		testWrong(t, x)
	}
	for _, x := range []wrongCase{
		{"500 together", "", list(rev(put(bytesOf(300)))), 0, parts(put(bytesOf(200))), api.OK},
		{"500 together, by two", "", list(rev(put(bytesOf(150))), rev(put(bytesOf(150)), keep(150))), 0, parts(put(bytesOf(200))), api.OK},
		{"500 together, of 500", bytesOf(500), list(rev(put(bytesOf(300)), cut(500))), 0, parts(put(bytesOf(200)), cut(500)), api.OK},
		{"too large only on the way", "", list(rev(put(bytesOf(500))), rev(cut(500))), 0, parts(put(bytesOf(500))), api.OK},
		{"500, not late", "", list(rev(put(bytesOf(500)))), 1, parts(put(bytesOf(500)), cut(500)), api.OK},
	} {
		if _, _, _, e := Of(x.base, x.l, x.r, x.mine); e != x.want {
			t.Errorf("%s: %d", x.name, e)
		}
	}
}

// at tells what d does place by place: what it puts there, and if it cuts the byte there.
func at(d []api.Part, n int) (puts []string, cuts []bool) {
	puts, cuts = make([]string, n+1), make([]bool, n+1)
	place := 0
	for _, p := range d {
		puts[place] += p.Text
		for range p.N {
			cuts[place] = p.Kind == api.Cut
			place++
		}
	}
	return puts, cuts
}

// together tells the text that both make of s, by the words of P9: theirs is the first.
func together(theirs, mine []api.Part, s string) string {
	putsA, cutsA := at(theirs, len(s))
	putsB, cutsB := at(mine, len(s))
	var b strings.Builder
	for i := range len(s) + 1 {
		b.WriteString(putsA[i] + putsB[i])
		if i < len(s) && !cutsA[i] && !cutsB[i] {
			b.WriteByte(s[i])
		}
	}
	return b.String()
}

// lastFirst makes one delta of those of l from the end on: whichever two are taken first, it
// is the same.
func lastFirst(l []api.Rev, n int) []api.Part {
	d, _ := part.Norm(parts(keep(n)))
	if len(l) > 0 {
		d = l[len(l)-1].Delta
	}
	for i := len(l) - 2; i >= 0; i-- {
		d, _ = comp.Of(l[i].Delta, d)
	}
	return d
}

func putBy(d []api.Part) string {
	var b strings.Builder
	for _, p := range d {
		b.WriteString(p.Text)
	}
	return b.String()
}

// testLate tells if both together were too large.
func testLate(t *testing.T, base string, l []api.Rev, r int, mine []api.Part) bool {
	t.Helper()
	was, _ := revs.Text(base, l, r)
	now, _ := revs.Text(base, l, len(l))
	own, _ := apply.Do(mine, was)
	want := lastFirst(l[r:], len(was))
	all := together(want, mine, was)
	theirs, ahead, behind, e := Of(base, l, r, mine)
	if len(all) > api.MaxDoc {
		if e != api.ErrLarge || theirs != nil || ahead != nil || behind != nil {
			t.Fatalf("%q, %v, %d, %v: %v, %v, %v %d", base, l, r, mine, theirs, ahead, behind, e)
		}
		return true
	}
	if e != api.OK || !slices.Equal(theirs, want) {
		t.Fatalf("%q, %v, %d, %v: %v %d, not %v", base, l, r, mine, theirs, e, want)
	}
	if s, e := apply.Do(ahead, now); e != api.OK || s != all || putBy(ahead) != putBy(mine) {
		t.Fatalf("%q, %v, %d, %v: ahead is %v, makes %q %d, not %q", base, l, r, mine, ahead, s, e, all)
	}
	if s, e := apply.Do(behind, own); e != api.OK || s != all || putBy(behind) != putBy(theirs) {
		t.Fatalf("%q, %v, %d, %v: behind is %v, makes %q %d, not %q", base, l, r, mine, behind, s, e, all)
	}
	return false
}

// everyDelta calls f with each delta of a text of n bytes that puts s, or nothing, at each
// place where it can.
func everyDelta(n int, s string, f func(d []api.Part)) {
	var grow func(l []api.Part, left int)
	grow = func(l []api.Part, left int) {
		if left == 0 {
			f(l)
			return
		}
		for _, more := range [][]api.Part{parts(keep(1)), parts(keep(1), put(s)), parts(cut(1))} {
			d, _ := part.Norm(append(slices.Clone(l), more...))
			grow(d, left-1)
		}
	}
	grow(nil, n)
	grow(parts(put(s)), n)
}

func made(d []api.Part) int {
	_, out, _ := part.Sizes(d)
	return out
}

func TestEveryShortHistory(t *testing.T) {
	for n := range 3 {
		base := "ab"[:n]
		everyDelta(n, "x", func(a []api.Part) {
			everyDelta(made(a), "y", func(b []api.Part) {
				l := list(rev(a...), rev(b...))
				everyDelta(n, "Z", func(mine []api.Part) {
					testLate(t, base, l[:1], 0, mine)
					testLate(t, base, l, 0, mine)
				})
			})
			everyDelta(made(a), "Z", func(mine []api.Part) {
				testLate(t, base, list(rev(a...)), 1, mine)
			})
		})
	}
}

func anyText(r *rand.Rand, n int) string {
	b := make([]byte, n)
	r.Read(b)
	return string(b)
}

// anyDelta makes a delta of n bytes by chance, that makes at most most.
func anyDelta(r *rand.Rand, n, most int) []api.Part {
	for {
		var l []api.Part
		for left := n; left > 0; {
			k := 1 + r.Intn(min(left, 1+r.Intn(20)))
			left -= k
			l = append(l, put(anyText(r, r.Intn(2)*r.Intn(12))), api.Part{Kind: api.Keep + 2*r.Intn(2), N: k})
		}
		d, e := part.Norm(append(l, put(anyText(r, r.Intn(2)*r.Intn(9)))))
		if e == api.OK && made(d) <= most {
			return d
		}
	}
}

func TestLongHistories(t *testing.T) {
	r := rand.New(rand.NewSource(29))
	large := 0
	for range 100 {
		most := 1 + r.Intn(500)
		base := anyText(r, r.Intn(most+1))
		sizes := []int{len(base)}
		var l []api.Rev
		for i := range r.Intn(65) {
			d := anyDelta(r, sizes[i], most)
			sizes = append(sizes, made(d))
			l = append(l, rev(d...))
		}
		for range 10 {
			k := r.Intn(len(sizes))
			if testLate(t, base, l, k, anyDelta(r, sizes[k], 500)) {
				large++
			}
		}
	}
	if large == 0 {
		t.Error("none was too large: chance should have made some that are")
	}
}

func TestMostParts(t *testing.T) {
	base := bytesOf(500)
	l := [][]api.Part{
		slices.Repeat(parts(keep(1), put("a"), cut(1)), 250),
		slices.Repeat(parts(put("b"), cut(1), keep(1)), 250),
		slices.Repeat(parts(cut(1), keep(1)), 250),
		parts(put(base), cut(500)),
		parts(keep(500)),
	}
	for _, a := range l {
		for _, mine := range l {
			testLate(t, base, list(rev(a...)), 0, mine)
			testLate(t, base, slices.Repeat(list(rev(l[0]...), rev(l[1]...)), 32), 0, mine)
		}
	}
}

// roomy has d, and behind it spare room with marks in it.
func roomy(d []api.Part) []api.Part {
	return append(slices.Clone(d), put("spare"), keep(9), put("room"))[:len(d)]
}

// roomyStory has spare room behind each of its lists.
func roomyStory(text string) []api.Rev {
	l := list(
		rev(keep(1), put(text), cut(1), keep(1)), rev(keep(2+len(text))), rev(cut(2), keep(len(text)), put("X")),
		rev(put(text), keep(1+len(text))), rev(put("spare")), rev(keep(7)),
	)
	for i := range l {
		l[i].Delta = roomy(l[i].Delta)
	}
	return l[:4]
}

// whole copies all that l has, spare room included.
func whole(l []api.Rev) []api.Rev {
	all := slices.Clone(l[:cap(l)])
	for i, r := range all {
		all[i].Delta = slices.Clone(r.Delta[:cap(r.Delta)])
	}
	return all
}

func sameRevs(a, b []api.Rev) bool {
	return slices.EqualFunc(a, b, func(x, y api.Rev) bool {
		return x.Who == y.Who && x.Seq == y.Seq && slices.Equal(x.Delta, y.Delta)
	})
}

// ownOf are deltas of the text behind r of l's revisions, with spare room.
func ownOf(base string, l []api.Rev, r int, text string) [][]api.Part {
	s, _ := revs.Text(base, l, r)
	return [][]api.Part{roomy(parts(keep(len(s)))), roomy(parts(put(text), cut(len(s)))), roomy(parts(keep(1), put(text), keep(len(s)-1)))}
}

func TestNothingHandedInIsChanged(t *testing.T) {
	l := roomyStory("text")
	was := whole(l)
	for n := range len(l) + 1 {
		for r := range n + 1 {
			for _, mine := range ownOf("abc", l, r, "mine") {
				mineWas := slices.Clone(mine[:cap(mine)])
				for _, k := range []int{r, r + 1, -1} {
					Of("abc", l[:n], k, mine)
				}
				if !slices.Equal(mine[:cap(mine)], mineWas) {
					t.Errorf("%v is changed", mineWas)
				}
			}
		}
	}
	if !sameRevs(whole(l), was) {
		t.Errorf("%v is changed", was)
	}
}

// inside tells if the memory of s begins within that of t.
func inside(s, t string) bool {
	if s == "" || t == "" {
		return false
	}
	a, b := uintptr(unsafe.Pointer(unsafe.StringData(s))), uintptr(unsafe.Pointer(unsafe.StringData(t)))
	return a >= b && a < b+uintptr(len(t))
}

// testApart looks that no list of an answer shares memory with another, or a text of them
// with one of those that were handed in.
func testApart(t *testing.T, answer [3][]api.Part, texts ...string) {
	t.Helper()
	for i, d := range answer {
		for _, p := range d {
			for _, s := range texts {
				if inside(p.Text, s) {
					t.Errorf("%d: the text that is put is one that was handed in", i)
				}
			}
			for _, q := range answer[(i+1)%3] {
				// A text of one byte is the runtime's own, wherever it was made.
				if len(p.Text) > 1 && inside(p.Text, q.Text) {
					t.Errorf("%d: its text is in the next list, too", i)
				}
			}
		}
	}
	for i, d := range answer {
		next, last := answer[(i+1)%3], answer[(i+2)%3]
		nextWas, lastWas := slices.Clone(next), slices.Clone(last)
		for j := range d[:cap(d)] {
			d[:cap(d)][j] = put("overwritten")
		}
		if !slices.Equal(next, nextWas) || !slices.Equal(last, lastWas) {
			t.Errorf("%d: two lists of the answer share memory", i)
		}
	}
}

func TestAnswerIsNewMemory(t *testing.T) {
	base, text, own := strings.Repeat("b", 3), bytesOf(40), strings.Repeat("y", 40)
	l := roomyStory(text)
	was := whole(l)
	for n := range len(l) + 1 {
		for r := range n + 1 {
			for _, mine := range ownOf(base, l, r, own) {
				mineWas := slices.Clone(mine[:cap(mine)])
				a, b, c, e := Of(base, l[:n], r, mine)
				again, _, _, _ := Of(base, l[:n], r, mine)
				kept := slices.Clone(again)
				if e != api.OK {
					t.Fatalf("%d of %d: %d", r, n, e)
				}
				testApart(t, [3][]api.Part{a, b, c}, base, text, own)
				if !slices.Equal(again, kept) || !slices.Equal(mine[:cap(mine)], mineWas) || !sameRevs(whole(l), was) {
					t.Errorf("%d of %d: the answer shares memory", r, n)
				}
			}
		}
	}
}

func TestNothingHandedInIsKept(t *testing.T) {
	l := roomyStory("text")
	mine := parts(keep(1), put("mine"), keep(2))
	a, b, c, _ := Of("abc", l, 0, mine)
	was := slices.Concat(a, b, c)
	for i := range l {
		for j := range l[i].Delta {
			l[i].Delta[j] = put("other")
		}
	}
	for j := range mine {
		mine[j] = put("other")
	}
	if !slices.Equal(slices.Concat(a, b, c), was) {
		t.Errorf("%v hangs on what was handed in when that is changed later", was)
	}
}
