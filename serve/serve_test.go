package serve_test

import (
	"fmt"
	"math"
	"slices"
	"testing"

	"scrivenry/api"
	"scrivenry/catchup"
	"scrivenry/disk"
	"scrivenry/serve"
	"scrivenry/shop"
)

type submitCase struct {
	name       string
	text       string
	l          []api.Rev
	base       int
	mine, left []api.Part
	want       string
}

func fewCases() []submitCase {
	one := func(l ...api.Part) []api.Rev { return []api.Rev{rev(1, 1, l...)} }
	return []submitCase{
		{"nothing", "", nil, 0, nil, nil, ""},
		{"nothing, an empty list", "", nil, 0, parts(), nil, ""},
		{"not late", "abc", nil, 0, parts(keep(3), put("Y")), parts(keep(3), put("Y")), "abcY"},
		{"not late, all kept", "abc", nil, 0, parts(keep(3)), parts(keep(3)), "abc"},
		{"not late, behind some", "abc", one(keep(1), cut(2)), 1, parts(put("Y"), cut(1)), parts(put("Y"), cut(1)), "Y"},
		{"not late, of nothing", "a", one(cut(1)), 1, parts(put("Y")), parts(put("Y")), "Y"},
		{"late", "abc", one(put("X"), keep(3)), 0, parts(keep(3), put("Y")), parts(keep(4), put("Y")), "XabcY"},
		{"late, all kept", "abc", one(put("X"), keep(3)), 0, parts(keep(3)), parts(keep(4)), "Xabc"},
		{"late, the other one kept all", "abc", one(keep(3)), 0, parts(cut(3)), parts(cut(3)), ""},
		{"both put: the first one's is ahead", "", one(put("X")), 0, parts(put("Y")), parts(keep(1), put("Y")), "XY"},
		{"both put the same", "", one(put("X")), 0, parts(put("X")), parts(keep(1), put("X")), "XX"},
		{"both put at the end", "ab", one(keep(2), put("XX")), 0, parts(keep(2), put("YY")), parts(keep(4), put("YY")), "abXXYY"},
		{"both put in the middle", "ab", one(keep(1), put("X"), keep(1)), 0, parts(keep(1), put("Y"), keep(1)), parts(keep(2), put("Y"), keep(1)), "aXYb"},
		{"both cut", "abc", one(cut(2), keep(1)), 0, parts(keep(1), cut(2)), parts(cut(1)), ""},
		{"both cut all", "abc", one(cut(3)), 0, parts(cut(3)), nil, ""},
		{"it puts within what was cut", "ab", one(cut(2)), 0, parts(keep(1), put("Y"), keep(1)), parts(put("Y")), "Y"},
		{"it cuts what was put into", "ab", one(keep(1), put("X"), keep(1)), 0, parts(cut(2)), parts(cut(1), keep(1), cut(1)), "X"},
		{"any bytes", "\xff", one(put("\x00"), keep(1)), 0, parts(put("\xc3\xa9"), cut(1)), parts(keep(1), put("\xc3\xa9"), cut(1)), "\x00\xc3\xa9"},
		{"500 together", "", one(put(bytesOf(300))), 0, parts(put(bytesOf(200))), parts(keep(300), put(bytesOf(200))), bytesOf(500)},
		{"500, not late", bytesOf(500), nil, 0, parts(put(bytesOf(500)), cut(500)), parts(put(bytesOf(500)), cut(500)), bytesOf(500)},
	}
}

func manyCases() []submitCase {
	// abc, aXbc, Xc, XcZ
	l := []api.Rev{rev(1, 1, keep(1), put("X"), keep(2)), rev(2, 1, cut(1), keep(1), cut(1), keep(1)), rev(1, 2, keep(2), put("Z"))}
	return []submitCase{
		{"from the beginning", "abc", l, 0, parts(keep(3), put("Y")), parts(keep(3), put("Y")), "XcZY"},
		{"from the beginning, in the middle", "abc", l, 0, parts(keep(1), put("Y"), keep(1), cut(1)), parts(keep(1), put("Y"), cut(1), keep(1)), "XYZ"},
		{"behind the first", "abc", l, 1, parts(cut(2), keep(2)), parts(cut(1), keep(2)), "cZ"},
		{"behind the second", "abc", l, 2, parts(keep(1), put("Y"), keep(1)), parts(keep(1), put("Y"), keep(2)), "XYcZ"},
		{"behind all", "abc", l, 3, parts(cut(1), keep(1), cut(1)), parts(cut(1), keep(1), cut(1)), "c"},
		{"its own hand's are others, too", "abc", []api.Rev{rev(3, 1, put("X"), keep(3)), rev(3, 2, put("Z"), keep(4))}, 0,
			parts(put("Y"), keep(3)), parts(keep(2), put("Y"), keep(3)), "ZXYabc"},
		// All as one delta would put X ahead of the byte it cuts, so that Y were behind X: aXYc.
		{"one by one", "abc", []api.Rev{rev(1, 1, keep(2), put("X"), keep(1)), rev(2, 1, keep(1), cut(1), keep(2))}, 0,
			parts(keep(1), put("Y"), keep(2)), parts(keep(1), put("Y"), keep(2)), "aYXc"},
		{"put and cut again", "ab", []api.Rev{rev(1, 1, keep(1), put(bytesOf(98)), keep(1)), rev(1, 2, keep(1), cut(98), keep(1))}, 0,
			parts(keep(1), put("YY"), keep(1)), parts(keep(1), put("YY"), keep(1)), "aYYb"},
	}
}

func TestSubmit(t *testing.T) {
	for _, x := range append(fewCases(), manyCases()...) {
		adds(t, x.name, with(t, x.text, x.l...), msg(x.base, 3, 9, x.mine...), x.left, x.want)
	}
}

// An archive that was moved knows a revision by the same number.
func TestSubmitBehindAMove(t *testing.T) {
	for _, x := range append(fewCases(), manyCases()...) {
		for floor := range x.base + 1 {
			adds(t, x.name, from(t, with(t, x.text, x.l...), floor), msg(x.base, 3, 9, x.mine...), x.left, x.want)
		}
	}
}

func TestSubmitWhileItMoves(t *testing.T) {
	for _, x := range append(fewCases(), manyCases()...) {
		for steps := range 4 + len(x.l) {
			s := with(t, x.text, x.l...)
			s.Keep(0)
			for range steps {
				s.Step()
			}
			adds(t, x.name, s, msg(x.base, 3, 9, x.mine...), x.left, x.want)
		}
	}
}

// The revisions are not taken as one delta: what is left then may be another.
func TestOneByOneIsNotAllAsOne(t *testing.T) {
	l := []api.Rev{rev(1, 1, keep(2), put("X"), keep(1)), rev(2, 1, keep(1), cut(1), keep(2))}
	mine := parts(keep(1), put("Y"), keep(2))
	if _, ahead, _, _ := catchup.Of("abc", l, 0, mine); !slices.Equal(ahead, parts(keep(2), put("Y"), keep(1))) {
		t.Errorf("all as one: %v", ahead)
	}
	adds(t, "one by one", with(t, "abc", l...), msg(0, 3, 1, mine...), parts(keep(1), put("Y"), keep(2)), "aYXc")
}

func TestEachHandAndNumber(t *testing.T) {
	s := shop.New()
	for _, seq := range []int{1, 2, 9, 300, most - 1, most} {
		for who := range 8 {
			m := msg(s.Head(), who, seq)
			adds(t, "a number that is greater", s, m, nil, "")
			twice(t, "the same number", s, m, s.Head())
			fails(t, "a number that is less", s, msg(s.Head(), who, seq-1), api.ErrSeq)
		}
	}
}

func TestTwice(t *testing.T) {
	s := with(t, "abc", rev(1, 4, keep(3), put("X")), rev(2, 1, cut(4)))
	m := msg(1, 3, 5, keep(4), put("Y"))
	adds(t, "once", s, m, parts(put("Y")), "Y")
	twice(t, "twice", s, m, 3)
	twice(t, "three times", s, m, 3)
	adds(t, "another hand, the same number", s, msg(3, 4, 5, keep(1), put("Z")), parts(keep(1), put("Z")), "YZ")
	twice(t, "behind another's", s, m, 3)
	twice(t, "another's", s, msg(3, 4, 5, keep(1), put("Z")), 4)
	twice(t, "what came not by a message", s, msg(0, 1, 4, keep(3), put("X")), 1)
	adds(t, "the next one", s, msg(4, 3, 6, keep(2)), parts(keep(2)), "YZ")
	twice(t, "the next one again", s, msg(4, 3, 6, keep(2)), 5)
	fails(t, "the one ahead of it", s, m, api.ErrSeq)
}

// Only the hand and the number say that it was there: of the rest only the delta's form is asked.
func TestTwiceWhateverElseItSays(t *testing.T) {
	s := from(t, with(t, "abc", rev(1, 1, keep(3)), rev(2, 7, keep(3), put("X")), rev(1, 2, keep(4)), rev(5, most, keep(4))), 3)
	for _, base := range []int{2, 3, 4, 0, 1, 5, 9, -1, most, most + 1, math.MaxInt, math.MinInt} {
		for _, d := range [][]api.Part{parts(keep(3), put("X")), parts(keep(4)), nil, parts(cut(4)), parts(put("another"), cut(500)), parts(put(bytesOf(500)))} {
			twice(t, "behind a move", s, msg(base, 2, 7, d...), 2)
			twice(t, "not behind it", s, msg(base, 1, 2, d...), 3)
			twice(t, "the greatest number", s, msg(base, 5, most, d...), 4)
		}
		fails(t, "no form", s, msg(base, 2, 7, keep(0)), api.ErrForm)
		fails(t, "too large", s, msg(base, 2, 7, keep(501)), api.ErrLarge)
		fails(t, "too large together", s, msg(base, 2, 7, keep(400), put(bytesOf(101))), api.ErrLarge)
	}
}

// The table of a log that is opened may say anything of what was ahead of it.
func TestTwiceByTheTable(t *testing.T) {
	var first table
	for who := range first {
		first[who] = api.Sess{Seq: 10 + who, Rev: 1000 - who}
	}
	first[0], first[1], first[2], first[3] = api.Sess{Rev: 9}, api.Sess{Seq: 1}, api.Sess{Seq: most, Rev: most}, api.Sess{Seq: 5, Rev: 5000}
	s := opened(t, 2000, "t", first)
	fails(t, "number 0 is no revision's", s, msg(2000, 0, 0, keep(1)), api.ErrSeq)
	for who := 1; who < 8; who++ {
		twice(t, fmt.Sprint(who), s, msg(2000, who, first[who].Seq, keep(1)), first[who].Rev)
		if first[who].Seq > 1 {
			fails(t, fmt.Sprint(who), s, msg(2000, who, first[who].Seq-1, keep(1)), api.ErrSeq)
		}
	}
	adds(t, "the next number", s, msg(2000, 7, 18, put("a"), keep(1)), parts(put("a"), keep(1)), "at")
	twice(t, "the next number again", s, msg(2000, 7, 18, put("a"), keep(1)), 2001)
}

// A message that a crash took is no longer there, and is added when it comes again.
func TestTwiceWithACrashBetween(t *testing.T) {
	s := with(t, "abc", rev(1, 1, put("X"), keep(3)))
	s.Sync()
	m := msg(0, 2, 1, keep(3), put("Y"))
	adds(t, "once", s, m, parts(keep(4), put("Y")), "XabcY")
	d, _ := disk.Crash(s.Disk(), [2]int{})
	o, e := shop.Open(d)
	if e != api.OK {
		t.Fatal(e)
	}
	adds(t, "another", o, msg(1, 3, 1, keep(4), put("Z")), parts(keep(4), put("Z")), "XabcZ")
	adds(t, "again", o, m, parts(keep(5), put("Y")), "XabcZY")
	o.Sync()
	d, _ = disk.Crash(o.Disk(), [2]int{})
	o, _ = shop.Open(d)
	twice(t, "when it was safe", o, m, 3)
}

type wrongCase struct {
	name string
	m    api.Msg
	want api.Errno
}

// wrongCases are of an archive with revisions 2 to 4, of three, four and five bytes; hand 1 is at
// 7, hand 2 at most.
func wrongCases() []wrongCase {
	return []wrongCase{
		{"hand -1", msg(4, -1, 8, keep(5)), api.ErrArg},
		{"hand 8", msg(4, 8, 8, keep(5)), api.ErrArg},
		{"a great hand", msg(4, math.MaxInt, 8, keep(5)), api.ErrArg},
		{"a least hand", msg(4, math.MinInt, 8, keep(5)), api.ErrArg},
		{"a hand of 32 bits", msg(4, 1<<32+1, 7, keep(5)), api.ErrArg},
		{"number -1", msg(4, 1, -1, keep(5)), api.ErrArg},
		{"number -1 of a hand that has none", msg(4, 3, -1, keep(5)), api.ErrArg},
		{"number 2^31", msg(4, 1, most+1, keep(5)), api.ErrArg},
		{"number 2^31, of the one with the last", msg(4, 2, most+1, keep(5)), api.ErrArg},
		{"a great number", msg(4, 1, math.MaxInt, keep(5)), api.ErrArg},
		{"a least number", msg(4, 1, math.MinInt, keep(5)), api.ErrArg},
		{"a number of 32 bits", msg(4, 1, 1<<32+7, keep(5)), api.ErrArg},
		{"hand ahead of form", msg(4, 8, 8, keep(0)), api.ErrArg},
		{"number ahead of form", msg(4, 1, -1, keep(0)), api.ErrArg},
		{"number ahead of size", msg(4, 1, most+1, keep(501)), api.ErrArg},
		{"hand ahead of base", msg(9, 8, 8, keep(5)), api.ErrArg},
		{"no parts there", msg(4, 1, 8, keep(0)), api.ErrForm},
		{"no kind", msg(4, 1, 8, api.Part{}), api.ErrForm},
		{"keep and keep", msg(4, 1, 8, keep(2), keep(3)), api.ErrForm},
		{"put behind cut", msg(4, 1, 8, cut(5), put("a")), api.ErrForm},
		{"least", msg(4, 1, 8, keep(math.MinInt)), api.ErrForm},
		{"most", msg(4, 1, 8, keep(math.MaxInt)), api.ErrLarge},
		{"1601 parts", msg(4, 1, 8, make([]api.Part, 1601)...), api.ErrLarge},
		{"of 501", msg(4, 1, 8, keep(400), cut(101)), api.ErrLarge},
		{"to 501", msg(4, 1, 8, keep(5), put(bytesOf(496))), api.ErrLarge},
		{"form ahead of the last number", msg(4, 1, 7, keep(0)), api.ErrForm},
		{"form ahead of a number that was passed", msg(4, 1, 6, keep(0)), api.ErrForm},
		{"form ahead of base", msg(9, 1, 8, keep(0)), api.ErrForm},
		{"form ahead of length", msg(4, 1, 8, keep(1), keep(1)), api.ErrForm},
		{"large ahead of number", msg(4, 1, 6, keep(501)), api.ErrLarge},
		{"large ahead of base", msg(1, 1, 8, keep(501)), api.ErrLarge},
		{"a number that was passed", msg(4, 1, 6, keep(5)), api.ErrSeq},
		{"the number of a revision that is not the last", msg(4, 1, 5, keep(5)), api.ErrSeq},
		{"number 0", msg(4, 1, 0, keep(5)), api.ErrSeq},
		{"number 0 of a hand that has none", msg(4, 3, 0, keep(5)), api.ErrSeq},
		{"nothing behind the greatest number", msg(4, 2, most-1, keep(5)), api.ErrSeq},
		{"number ahead of future", msg(5, 1, 6, keep(5)), api.ErrSeq},
		{"number ahead of gone", msg(1, 3, 0, keep(5)), api.ErrSeq},
		{"number ahead of length", msg(4, 1, 6, keep(4)), api.ErrSeq},
		{"gone", msg(1, 1, 8, keep(3)), api.ErrGone},
		{"the beginning is gone", msg(0, 1, 8, keep(3)), api.ErrGone},
		{"below 0", msg(-1, 1, 8, keep(3)), api.ErrGone},
		{"least base", msg(math.MinInt, 1, 8, keep(3)), api.ErrGone},
		{"not there yet", msg(5, 1, 8, keep(5)), api.ErrFuture},
		{"2^31-1 is not there yet", msg(most, 1, 8, keep(5)), api.ErrFuture},
		{"2^32 and a revision that is there", msg(1<<32+4, 1, 8, keep(5)), api.ErrFuture},
		{"most base", msg(math.MaxInt, 1, 8, keep(5)), api.ErrFuture},
		{"gone ahead of length", msg(1, 1, 8), api.ErrGone},
		{"future ahead of length", msg(5, 1, 8), api.ErrFuture},
		{"too short", msg(4, 1, 8, keep(4)), api.ErrLen},
		{"too long", msg(4, 1, 8, cut(6)), api.ErrLen},
		{"nothing", msg(4, 1, 8), api.ErrLen},
		{"as long as what comes of it", msg(4, 1, 8, keep(4), put("a")), api.ErrLen},
		{"of the last text", msg(3, 1, 8, keep(5)), api.ErrLen},
		{"of the text ahead", msg(3, 1, 8, keep(3)), api.ErrLen},
		{"of the last text, at the first base", msg(2, 1, 8, keep(5)), api.ErrLen},
		{"length ahead of too much together", msg(2, 1, 8, keep(4), put(bytesOf(496))), api.ErrLen},
		{"too much together", msg(2, 1, 8, keep(3), put(bytesOf(496))), api.ErrLarge},
		{"too much together, with one", msg(3, 1, 8, keep(4), put(bytesOf(496))), api.ErrLarge},
	}
}

func TestErrors(t *testing.T) {
	revs := []api.Rev{rev(1, 5, keep(3)), rev(2, most, keep(3)), rev(1, 6, keep(3), put("X")), rev(1, 7, put("Z"), keep(4))}
	for _, x := range wrongCases() {
		s := from(t, with(t, "abc", revs...), 2)
		fails(t, x.name, s, x.m, x.want)
		adds(t, x.name+", and one that is right", s, msg(2, 1, 8, keep(2), cut(1)), parts(keep(3), cut(1), keep(1)), "ZabX")
	}
}

func TestErrorsOfANewArchive(t *testing.T) {
	s := shop.New()
	for _, x := range []wrongCase{
		{"nothing at all", api.Msg{}, api.ErrSeq},
		{"hand", api.Msg{Who: 8}, api.ErrArg},
		{"future", msg(1, 0, 1), api.ErrFuture},
		{"gone", msg(-1, 0, 1), api.ErrGone},
		{"length", msg(0, 0, 1, keep(1)), api.ErrLen},
		{"form", msg(0, 0, 1, put("")), api.ErrForm},
		{"large", msg(0, 0, 1, put(bytesOf(501))), api.ErrLarge},
	} {
		fails(t, x.name, s, x.m, x.want)
	}
	adds(t, "right", s, msg(0, 0, 1), nil, "")
}

// What is too large on the way is so, also where it would not be in the end.
func TestTooLargeOnTheWay(t *testing.T) {
	l := []api.Rev{rev(1, 1, put(bytesOf(400))), rev(1, 2, cut(400))}
	s := with(t, "", l...)
	if _, _, _, e := catchup.Of("", l, 0, parts(put(bytesOf(101)))); e != api.OK {
		t.Errorf("all as one: %d", e)
	}
	fails(t, "501", s, msg(0, 2, 1, put(bytesOf(101))), api.ErrLarge)
	adds(t, "500", s, msg(0, 2, 1, put(bytesOf(100))), parts(put(bytesOf(100))), bytesOf(100))
	s = with(t, bytesOf(100), rev(1, 1, cut(100)), rev(1, 2, put(bytesOf(401))))
	fails(t, "the last one is too much", s, msg(0, 2, 1, put(bytesOf(100)), keep(100)), api.ErrLarge)
	adds(t, "what was cut is not counted", s, msg(0, 2, 1, put(bytesOf(99)), keep(100)), parts(keep(401), put(bytesOf(99))), bytesOf(500))
}

func TestFull(t *testing.T) {
	for _, x := range []struct{ base, n int }{{0, 64}, {1000, 64}, {most - 64, 64}, {most - 2, 2}, {most - 1, 1}, {most, 0}} {
		s := opened(t, x.base, bytesOf(300), table{2: {Seq: 90, Rev: 7}})
		for i := range x.n {
			adds(t, "right", s, msg(x.base, 1, i+1, keep(300), put("a")), parts(keep(300+i), put("a")), s300(i+1))
		}
		head := x.base + x.n
		fails(t, "full", s, msg(head, 1, 70, keep(300+x.n)), api.ErrFull)
		fails(t, "full, and late", s, msg(x.base, 1, 70, keep(300)), api.ErrFull)
		fails(t, "too much together is ahead", s, msg(x.base, 1, 70, keep(300), put(bytesOf(200))), tooMuch(x.n))
		fails(t, "length is ahead", s, msg(head, 1, 70, keep(299)), api.ErrLen)
		fails(t, "future is ahead", s, msg(head+1, 1, 70, keep(300+x.n)), api.ErrFuture)
		fails(t, "gone is ahead", s, msg(x.base-1, 1, 70, keep(300)), api.ErrGone)
		fails(t, "number is ahead", s, msg(head, 2, 89, keep(300+x.n)), api.ErrSeq)
		twice(t, "the last number is ahead", s, msg(head, 2, 90, keep(300+x.n)), 7)
		if x.n > 0 {
			twice(t, "the last revision", s, msg(head-1, 1, x.n, keep(300), put("a")), head)
		}
	}
}

func s300(n int) string {
	s := bytesOf(300)
	for range n {
		s += "a"
	}
	return s
}

func tooMuch(n int) api.Errno {
	if n > 0 {
		return api.ErrLarge
	}
	return api.ErrFull
}

// When the archive was moved there is room again.
func TestFullNoLongerBehindAMove(t *testing.T) {
	s := shop.New()
	for i := range 64 {
		adds(t, "right", s, msg(i, i%8, i+1), nil, "")
	}
	fails(t, "full", s, msg(64, 1, 70), api.ErrFull)
	from(t, s, 60)
	adds(t, "room", s, msg(60, 1, 70, put("a")), parts(put("a")), "a")
	fails(t, "gone", s, msg(59, 1, 71), api.ErrGone)
}

// roomy has d, and behind it spare room with marks in it.
func roomy(d []api.Part) []api.Part {
	return append(slices.Clone(d), put("spare"), keep(9), put("room"))[:len(d)]
}

func TestNothingHandedInIsChangedOrKept(t *testing.T) {
	for _, x := range append(fewCases(), manyCases()...) {
		for _, seq := range []int{9, 0} {
			s := with(t, x.text, x.l...)
			m := msg(x.base, 3, seq, roomy(x.mine)...)
			m.Delta = roomy(x.mine)
			was := slices.Clone(m.Delta[:cap(m.Delta)])
			for range 2 {
				serve.Submit(s, m)
				if !slices.Equal(m.Delta[:cap(m.Delta)], was) {
					t.Errorf("%s: %v is changed", x.name, was)
				}
			}
			now := ask(t, s)
			for i := range m.Delta[:cap(m.Delta)] {
				m.Delta[:cap(m.Delta)][i] = put("mine")
			}
			same(t, x.name+", when what was handed in is changed", s, now)
		}
	}
}
