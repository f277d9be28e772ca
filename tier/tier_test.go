package tier

import (
	"math"
	"math/rand"
	"slices"
	"strings"
	"testing"
	"unsafe"

	"scrivenry/api"
	"scrivenry/apply"
	"scrivenry/comp"
	"scrivenry/part"
	"scrivenry/revs"
)

func keep(n int) api.Part { return api.Part{Kind: api.Keep, N: n} }

func cut(n int) api.Part { return api.Part{Kind: api.Cut, N: n} }

func put(s string) api.Part { return api.Part{Kind: api.Put, Text: s} }

func parts(l ...api.Part) []api.Part { return l }

func bytesOf(n int) string { return strings.Repeat("x", n) }

func rev(l ...api.Part) api.Rev { return api.Rev{Who: 3, Seq: 7, Delta: l} }

func list(l ...api.Rev) []api.Rev { return l }

func block(level, i int) api.Block { return api.Block{Level: level, I: i} }

func blocks(l ...api.Block) []api.Block { return l }

// row is a level of tiers, and rows are tiers.
func row(l ...[]api.Part) [][]api.Part { return l }

func rows(l ...[][]api.Part) [][][]api.Part { return l }

func TestCover(t *testing.T) {
	for _, x := range []struct {
		i, k int
		want []api.Block
	}{
		{0, 0, nil},
		{5, 5, nil},
		{64, 64, nil},
		{0, 1, blocks(block(0, 0))},
		{63, 64, blocks(block(0, 63))},
		{0, 2, blocks(block(1, 0))},
		{1, 3, blocks(block(0, 1), block(0, 2))},
		{0, 3, blocks(block(1, 0), block(0, 2))},
		{1, 4, blocks(block(0, 1), block(1, 1))},
		{1, 6, blocks(block(0, 1), block(1, 1), block(1, 2))},
		{2, 6, blocks(block(1, 1), block(1, 2))},
		{4, 8, blocks(block(2, 1))},
		{4, 7, blocks(block(1, 2), block(0, 6))},
		{0, 7, blocks(block(2, 0), block(1, 2), block(0, 6))},
		{0, 64, blocks(block(6, 0))},
		{0, 63, blocks(block(5, 0), block(4, 2), block(3, 6), block(2, 14), block(1, 30), block(0, 62))},
		{1, 64, blocks(block(0, 1), block(1, 1), block(2, 1), block(3, 1), block(4, 1), block(5, 1))},
		{32, 64, blocks(block(5, 1))},
		{31, 33, blocks(block(0, 31), block(0, 32))},
		{16, 48, blocks(block(4, 1), block(4, 2))},
	} {
		if l, e := Cover(x.i, x.k); e != api.OK || !slices.Equal(l, x.want) {
			t.Errorf("%d %d: %v %d, not %v", x.i, x.k, l, e, x.want)
		}
	}
}

// fewest tells for each end from i on how many blocks it takes at least to come there, and by
// how many lists that can be: it tries all blocks there are.
func fewest(i int) (least, ways [65]int) {
	for k := range least {
		least[k] = math.MaxInt
	}
	least[i], ways[i] = 0, 1
	for at := i; at < 64; at++ {
		for size := 1; size <= 64; size *= 2 {
			end := at + size
			if at%size != 0 || end > 64 || least[at]+1 > least[end] {
				continue
			}
			if least[at]+1 < least[end] {
				least[end], ways[end] = least[at]+1, 0
			}
			ways[end] += ways[at]
		}
	}
	return least, ways
}

func TestEveryCoverIsTheOneWithTheFewest(t *testing.T) {
	for i := range 65 {
		least, ways := fewest(i)
		for k := i; k <= 64; k++ {
			l, e := Cover(i, k)
			if e != api.OK || len(l) != least[k] || ways[k] != 1 {
				t.Errorf("%d %d: %v %d, not %d blocks (of %d lists)", i, k, l, e, least[k], ways[k])
			}
			at := i
			for _, b := range l {
				size := 1 << b.Level
				if b.Level < 0 || b.I*size != at {
					t.Fatalf("%d %d: %v: %v does not begin behind %d", i, k, l, b, at)
				}
				at = (b.I + 1) * size
			}
			if at != k {
				t.Errorf("%d %d: %v ends with %d", i, k, l, at)
			}
		}
	}
}

// wrongBounds are not bounds of any cover.
func wrongBounds() [][2]int {
	far := []int{-1, -2, -64, 65, 66, 128, math.MinInt, math.MaxInt, math.MinInt32, math.MaxInt32, 1 << 32}
	var l [][2]int
	for _, a := range far {
		for _, b := range append([]int{0, 1, 32, 64}, far...) {
			l = append(l, [2]int{a, b}, [2]int{b, a})
		}
	}
	for i := range 65 {
		for k := range i {
			l = append(l, [2]int{i, k})
		}
	}
	return l
}

func TestCoverErrors(t *testing.T) {
	for _, x := range wrongBounds() {
		if l, e := Cover(x[0], x[1]); l != nil || e != api.ErrArg {
			t.Errorf("%v: %v %d", x, l, e)
		}
	}
}

func TestCoverAnswersNewMemory(t *testing.T) {
	l, _ := Cover(1, 64)
	again, _ := Cover(1, 64)
	was := slices.Clone(again)
	for i := range l[:cap(l)] {
		l[:cap(l)][i] = block(9, 9)
	}
	if later, _ := Cover(1, 64); !slices.Equal(again, was) || !slices.Equal(later, was) {
		t.Errorf("%v %v, not %v", again, later, was)
	}
}

// story goes from abc to the empty text and on.
func story() (string, []api.Rev) {
	return "abc", list(
		rev(keep(1), put("X"), keep(2)),
		rev(cut(1), keep(1), cut(1), keep(1)),
		rev(keep(2)),
		rev(cut(2)),
		rev(),
		rev(put("\xff\x00")),
		rev(keep(1), put("\xc3\xa9"), keep(1)),
	)
}

func sameRow(a, b [][]api.Part) bool { return slices.EqualFunc(a, b, slices.Equal[[]api.Part]) }

func sameTiers(a, b [][][]api.Part) bool { return slices.EqualFunc(a, b, sameRow) }

func TestBuild(t *testing.T) {
	base, l := story()
	single := row(
		parts(keep(1), put("X"), keep(2)), parts(cut(1), keep(1), cut(1), keep(1)), parts(keep(2)), parts(cut(2)),
		nil, parts(put("\xff\x00")), parts(keep(1), put("\xc3\xa9"), keep(1)),
	)
	double := row(parts(put("X"), cut(2), keep(1)), parts(cut(2)), parts(put("\xff\x00")))
	fourfold := row(parts(cut(3)))
	for n, want := range [][][][]api.Part{
		rows(),
		rows(single[:1]),
		rows(single[:2], double[:1]),
		rows(single[:3], double[:1]),
		rows(single[:4], double[:2], fourfold),
		rows(single[:5], double[:2], fourfold),
		rows(single[:6], double[:3], fourfold),
		rows(single, double, fourfold),
	} {
		if x, e := Build(base, l[:n]); e != api.OK || !sameTiers(x, want) {
			t.Errorf("%d: %v %d, not %v", n, x, e, want)
		}
	}
}

func TestBuildOfNoRevisions(t *testing.T) {
	for _, base := range []string{"", "abc", bytesOf(500)} {
		for _, l := range [][]api.Rev{nil, list()} {
			if x, e := Build(base, l); e != api.OK || len(x) != 0 {
				t.Errorf("%d bytes: %v %d", len(base), x, e)
			}
		}
	}
}

type wrongHistory struct {
	base string
	l    []api.Rev
}

func wrongHistories() []wrongHistory {
	form, large, long, arg := rev(keep(0)), rev(keep(501)), rev(keep(3)), api.Rev{Who: 8}
	ends := func(r api.Rev) []api.Rev { return append(slices.Repeat(list(rev()), 63), r) }
	return []wrongHistory{
		{bytesOf(501), nil},
		{bytesOf(501), list(form)},
		{"", slices.Repeat(list(rev()), 65)},
		{"", slices.Repeat(list(form), 65)},
		{"", list(form)}, {"", list(large)}, {"", list(long)}, {"", list(arg)},
		{"", list(api.Rev{Who: -1})}, {"", list(api.Rev{Seq: -1})}, {"", list(api.Rev{Seq: 1 << 31})},
		{"", ends(form)}, {"", ends(large)}, {"", ends(long)}, {"", ends(arg)},
		{"", list(long, form)}, {"", list(form, long)}, {"", list(arg, form)}, {"", list(long, arg)},
		{"abc", list(rev(cut(3)), long)},
		{"abc", list(rev(keep(3), put("x")), rev(keep(4)), long)},
		{"", list(rev(make([]api.Part, 1601)...))},
		{"", list(rev(put("a")), rev(cut(1), put("b")))},
	}
}

func TestBuildErrors(t *testing.T) {
	for _, x := range wrongHistories() {
		want := revs.Check(x.base, x.l)
		if y, e := Build(x.base, x.l); y != nil || e != want || e == api.OK {
			t.Errorf("%.9q, %.60v: %.60v %d, not %d", x.base, x.l, y, e, want)
		}
	}
}

func anyText(r *rand.Rand, n int) string {
	b := make([]byte, n)
	r.Read(b)
	return string(b)
}

// anyDelta makes a delta of n bytes by chance, that makes at most most.
func anyDelta(r *rand.Rand, n, most int) []api.Part {
	for {
		var l []api.Part
		for left := n; left > 0; {
			k := 1 + r.Intn(min(left, 1+r.Intn(20)))
			left -= k
			l = append(l, put(anyText(r, r.Intn(2)*r.Intn(12))), api.Part{Kind: api.Keep + 2*r.Intn(2), N: k})
		}
		d, e := part.Norm(append(l, put(anyText(r, r.Intn(2)*r.Intn(9)))))
		_, out, _ := part.Sizes(d)
		if e == api.OK && out <= most {
			return d
		}
	}
}

// anyHistory makes one of n revisions by chance.
func anyHistory(r *rand.Rand, n int) (string, []api.Rev) {
	most := 1 + r.Intn(500)
	base := anyText(r, r.Intn(most+1))
	size := len(base)
	var l []api.Rev
	for range n {
		d := anyDelta(r, size, most)
		_, size, _ = part.Sizes(d)
		l = append(l, api.Rev{Who: r.Intn(8), Seq: r.Intn(1 << 31), Delta: d})
	}
	return base, l
}

// inTurn is what the revisions of l do, one by one put behind the other, as one.
func inTurn(l []api.Rev) []api.Part {
	d := l[0].Delta
	for _, r := range l[1:] {
		d, _ = comp.Of(d, r.Delta)
	}
	return d
}

// testTiers looks that x has all blocks of l, each with its delta, and no other.
func testTiers(t *testing.T, x [][][]api.Part, l []api.Rev) {
	t.Helper()
	levels := 0
	for size := 1; size <= len(l); size *= 2 {
		levels++
	}
	if len(x) != levels {
		t.Fatalf("%d revisions: %d levels, not %d", len(l), len(x), levels)
	}
	for level, y := range x {
		size := 1 << level
		if len(y) != len(l)/size {
			t.Fatalf("%d revisions: level %d has %d blocks", len(l), level, len(y))
		}
		for i, d := range y {
			if !slices.Equal(d, inTurn(l[i*size:(i+1)*size])) {
				t.Fatalf("%d revisions: block %d of level %d is %v", len(l), i, level, d)
			}
		}
	}
}

// testBetweens holds all that x tells between two revisions against what these do in turn.
func testBetweens(t *testing.T, x [][][]api.Part, base string, l []api.Rev) {
	t.Helper()
	texts := []string{base}
	for i, r := range l {
		s, _ := apply.Do(r.Delta, texts[i])
		texts = append(texts, s)
	}
	for i := range l {
		want := parts(keep(len(texts[i])))
		if texts[i] == "" {
			want = nil
		}
		for k := i + 1; k <= len(l); k++ {
			want, _ = comp.Of(want, l[k-1].Delta)
			d, e := Between(x, i, k)
			if e != api.OK || !slices.Equal(d, want) {
				t.Fatalf("%d to %d: %v %d, not %v", i, k, d, e, want)
			}
			if s, e := apply.Do(d, texts[i]); s != texts[k] || e != api.OK {
				t.Fatalf("%d to %d: %q %d, not %q", i, k, s, e, texts[k])
			}
		}
	}
}

func TestBetweenIsWhatRevsTells(t *testing.T) {
	base, l := story()
	x, _ := Build(base, l)
	for k := range len(l) + 1 {
		for i := range k {
			want, _ := revs.Between(base, l, i, k)
			if d, e := Between(x, i, k); e != api.OK || !slices.Equal(d, want) {
				t.Errorf("%d to %d: %v %d, not %v", i, k, d, e, want)
			}
		}
	}
}

func TestHistoriesOfAllLengths(t *testing.T) {
	r := rand.New(rand.NewSource(32))
	for n := range 65 {
		base, l := anyHistory(r, n)
		x, e := Build(base, l)
		if e != api.OK {
			t.Fatalf("%d revisions: %d", n, e)
		}
		testTiers(t, x, l)
		testBetweens(t, x, base, l)
		testNoneBehind(t, x, n)
	}
}

// testNoneBehind looks that nothing is told of revisions that a history of n has not.
func testNoneBehind(t *testing.T, x [][][]api.Part, n int) {
	t.Helper()
	for k := n + 1; k <= 64; k++ {
		for i := range k {
			if d, e := Between(x, i, k); d != nil || e != api.ErrNone {
				t.Fatalf("%d to %d of %d: %v %d", i, k, n, d, e)
			}
		}
	}
}

func TestMostOfAll(t *testing.T) {
	fine := slices.Repeat(parts(put("a"), cut(1), keep(1)), 250)
	other := slices.Repeat(parts(keep(1), put("b"), cut(1)), 250)
	all := parts(put(bytesOf(500)), cut(500))
	for _, l := range [][]api.Rev{
		slices.Repeat(list(rev(fine...), rev(other...)), 32),
		slices.Repeat(list(rev(all...), rev(fine...)), 32),
		slices.Repeat(list(rev(all...)), 64),
		slices.Repeat(list(rev(keep(500))), 64),
	} {
		x, e := Build(bytesOf(500), l)
		if e != api.OK {
			t.Fatal(e)
		}
		testTiers(t, x, l)
		testBetweens(t, x, bytesOf(500), l)
	}
}

func TestBetweenBoundErrors(t *testing.T) {
	base, l := anyHistory(rand.New(rand.NewSource(33)), 64)
	x, _ := Build(base, l)
	all := [][][][]api.Part{x, nil, rows(), rows(row(parts(keep(0)))), rows(row(parts(keep(501))), row(nil))}
	for _, y := range all {
		for _, b := range wrongBounds() {
			if d, e := Between(y, b[0], b[1]); d != nil || e != api.ErrArg {
				t.Errorf("%v: %v %d", b, d, e)
			}
		}
		for i := range 65 {
			if d, e := Between(y, i, i); d != nil || e != api.ErrArg {
				t.Errorf("%d and itself: %v %d", i, d, e)
			}
		}
	}
}

func TestBetweenNone(t *testing.T) {
	a := parts(keep(1))
	for _, x := range []struct {
		name string
		t    [][][]api.Part
		i, k int
		want api.Errno
	}{
		{"no tiers", nil, 0, 1, api.ErrNone},
		{"no level", rows(), 0, 2, api.ErrNone},
		{"a level without blocks", rows(nil), 0, 1, api.ErrNone},
		{"the level is missing", rows(row(a, a)), 0, 2, api.ErrNone},
		{"the level has none", rows(row(a, a), nil), 0, 2, api.ErrNone},
		{"the block is missing", rows(row(a, a)), 2, 3, api.ErrNone},
		{"the last block is missing", rows(row(a, a), row(a)), 0, 3, api.ErrNone},
		{"the second block's level is missing", rows(row(a, a, a, a)), 1, 4, api.ErrNone},
		{"the greatest is missing", rows(slices.Repeat(row(a), 64), slices.Repeat(row(a), 32)), 0, 64, api.ErrNone},
		{"lower ones do not stand in for it", rows(row(a, a, a, a), row(a, a)), 0, 4, api.ErrNone},
		{"lower ones are not needed", rows(nil, nil, row(a)), 0, 4, api.OK},
		{"nor are blocks ahead", rows(row(nil, parts(keep(501))), row(nil, a)), 2, 4, api.OK},
		{"nor are blocks behind", rows(row(a, parts(keep(0)))), 0, 1, api.OK},
		{"a level more than there can be", rows(row(a), nil, nil, nil, nil, nil, nil, nil, row(a)), 0, 1, api.OK},
		{"more blocks than there can be", rows(slices.Repeat(row(a), 100)), 63, 64, api.OK},
	} {
		d, e := Between(x.t, x.i, x.k)
		if e != x.want || e != api.OK && d != nil || e == api.OK && !slices.Equal(d, a) {
			t.Errorf("%s: %v %d, not %d", x.name, d, e, x.want)
		}
	}
}

func TestBetweenOfNothing(t *testing.T) {
	for _, x := range [][][][]api.Part{rows(row(nil)), rows(row(parts()))} {
		if d, e := Between(x, 0, 1); e != api.OK || len(d) != 0 {
			t.Errorf("%v %d", d, e)
		}
	}
	if d, e := Between(rows(row(nil, nil, parts()), row(nil, nil)), 1, 4); e != api.OK || len(d) != 0 {
		t.Errorf("%v %d", d, e)
	}
}

// TestBetweenErrors asks for revisions 2 to 4: block 1 of level 0, then block 1 of level 1.
func TestBetweenErrors(t *testing.T) {
	form, large, many := parts(keep(0)), parts(keep(501)), make([]api.Part, 1601)
	a, b := parts(keep(2), put("x")), parts(keep(3))
	tiers := func(first, then []api.Part) [][][]api.Part { return rows(row(nil, first), row(nil, then)) }
	for _, x := range []struct {
		name string
		t    [][][]api.Part
		want api.Errno
	}{
		{"right", tiers(a, b), api.OK},
		{"the first is not in form", tiers(form, b), api.ErrForm},
		{"the first is too large", tiers(large, b), api.ErrLarge},
		{"the first has too many parts", tiers(many, b), api.ErrLarge},
		{"the second is not in form", tiers(a, form), api.ErrForm},
		{"the second is too large", tiers(a, large), api.ErrLarge},
		{"the second has too many parts", tiers(a, many), api.ErrLarge},
		{"the second is too long", tiers(a, parts(keep(4))), api.ErrLen},
		{"the second is too short", tiers(a, parts(keep(2))), api.ErrLen},
		{"the second is of nothing", tiers(a, nil), api.ErrLen},
		{"the first makes nothing", tiers(parts(cut(2)), b), api.ErrLen},
		{"form ahead of the second's size", tiers(form, large), api.ErrForm},
		{"size ahead of the second's form", tiers(large, form), api.ErrLarge},
		{"the second's form ahead of its length", tiers(a, parts(keep(1), keep(1))), api.ErrForm},
		{"form ahead of a second that is not there", rows(row(nil, form)), api.ErrForm},
		{"size ahead of a second that is not there", rows(row(nil, large), row(b)), api.ErrLarge},
		{"none ahead of the second's form", rows(row(a), row(nil, form)), api.ErrNone},
		{"none ahead of the second's length", rows(row(a), row(nil, parts(keep(9)))), api.ErrNone},
		{"the second is not there", rows(row(nil, a), row(b)), api.ErrNone},
	} {
		d, e := Between(x.t, 1, 4)
		if e != x.want || e != api.OK && d != nil || e == api.OK && !slices.Equal(d, a) {
			t.Errorf("%s: %.60v %d, not %d", x.name, d, e, x.want)
		}
	}
}

// TestBetweenErrorsOfThree asks for revisions 2 to 6: blocks of one, two and two.
func TestBetweenErrorsOfThree(t *testing.T) {
	a, form, long := parts(keep(2)), parts(keep(0)), parts(keep(3))
	tiers := func(x, y, z []api.Part) [][][]api.Part { return rows(row(nil, x), row(nil, y, z)) }
	for _, x := range []struct {
		name string
		t    [][][]api.Part
		want api.Errno
	}{
		{"right", tiers(a, a, a), api.OK},
		{"length ahead of the third's form", tiers(a, long, form), api.ErrLen},
		{"form ahead of the third's length", tiers(a, form, long), api.ErrForm},
		{"length ahead of a third that is not there", rows(row(nil, a), row(nil, long)), api.ErrLen},
		{"the third is not there", rows(row(nil, a), row(nil, a)), api.ErrNone},
		{"the third is too long", tiers(a, a, long), api.ErrLen},
		{"the third is not in form", tiers(a, a, form), api.ErrForm},
		{"the third is of what the first makes", tiers(a, parts(keep(2), put("x")), a), api.ErrLen},
		{"the third is of what both make", tiers(a, parts(keep(2), put("x")), parts(keep(2), cut(1))), api.OK},
	} {
		d, e := Between(x.t, 1, 6)
		if e != x.want || e != api.OK && d != nil || e == api.OK && !slices.Equal(d, a) {
			t.Errorf("%s: %v %d, not %d", x.name, d, e, x.want)
		}
	}
}

// roomy has d, and behind it spare room with marks in it.
func roomy(d []api.Part) []api.Part {
	return append(slices.Clone(d), put("spare"), keep(9), put("room"))[:len(d)]
}

// roomyStory has spare room behind each of its lists.
func roomyStory(text string) []api.Rev {
	n := len(text)
	l := list(
		rev(keep(1), put(text), cut(1), keep(1)), rev(keep(2+n)), rev(cut(2), keep(n), put("X")), rev(put(text), keep(1+n)),
		rev(keep(2*n), cut(1)), rev(put("spare")), rev(keep(7)),
	)
	for i := range l {
		l[i].Delta = roomy(l[i].Delta)
	}
	return l[:5]
}

// whole copies all that l has, spare room included.
func whole(l []api.Rev) []api.Rev {
	all := slices.Clone(l[:cap(l)])
	for i, r := range all {
		all[i].Delta = slices.Clone(r.Delta[:cap(r.Delta)])
	}
	return all
}

func sameRevs(a, b []api.Rev) bool {
	return slices.EqualFunc(a, b, func(x, y api.Rev) bool {
		return x.Who == y.Who && x.Seq == y.Seq && slices.Equal(x.Delta, y.Delta)
	})
}

// roomyTiers are x with spare room behind each list.
func roomyTiers(x [][][]api.Part) [][][]api.Part {
	var all [][][]api.Part
	for _, y := range x {
		var level [][]api.Part
		for _, d := range y {
			level = append(level, roomy(d))
		}
		all = append(all, append(level, parts(put("spare")), parts(keep(9)))[:len(level)])
	}
	return append(all, row(parts(put("room"))), row(nil))[:len(all)]
}

// wholeTiers copies all that x has, spare room included.
func wholeTiers(x [][][]api.Part) [][][]api.Part {
	all := slices.Clone(x[:cap(x)])
	for i, y := range all {
		all[i] = slices.Clone(y[:cap(y)])
		for j, d := range all[i] {
			all[i][j] = slices.Clone(d[:cap(d)])
		}
	}
	return all
}

func TestNothingHandedInIsChanged(t *testing.T) {
	l := roomyStory("text")
	was := whole(l)
	for n := range cap(l) + 1 {
		Build("abc", l[:n])
	}
	if !sameRevs(whole(l), was) {
		t.Errorf("%v is changed", was)
	}
	built, _ := Build("abc", l)
	x := roomyTiers(built)
	tiersWas := wholeTiers(x)
	for k := range 9 {
		for i := range k {
			Between(x, i, k)
		}
	}
	if !sameTiers(wholeTiers(x), tiersWas) {
		t.Errorf("%v is changed", tiersWas)
	}
}

// inside tells if the memory of s begins within that of t.
func inside(s, t string) bool {
	if s == "" || t == "" {
		return false
	}
	a, b := uintptr(unsafe.Pointer(unsafe.StringData(s))), uintptr(unsafe.Pointer(unsafe.StringData(t)))
	return a >= b && a < b+uintptr(len(t))
}

// textsOf has all texts of x that are longer than a byte: one of a byte is the runtime's own,
// wherever it was made.
func textsOf(x [][][]api.Part) []string {
	var l []string
	for _, y := range x {
		for _, d := range y {
			for _, p := range d {
				if len(p.Text) > 1 {
					l = append(l, p.Text)
				}
			}
		}
	}
	return l
}

func testTextsApart(t *testing.T, texts []string, text string) {
	t.Helper()
	for i, s := range texts {
		if inside(s, text) {
			t.Errorf("text %d of the answer is one that was handed in", i)
		}
		for j, other := range texts {
			if i != j && inside(s, other) {
				t.Errorf("texts %d and %d of the answer share memory", i, j)
			}
		}
	}
}

func TestBuildAnswersNewMemory(t *testing.T) {
	text := bytesOf(40)
	l := roomyStory(text)
	was := whole(l)
	x, e := Build("abc", l)
	if e != api.OK {
		t.Fatal(e)
	}
	testTextsApart(t, textsOf(x), text)
	want := wholeTiers(x)
	again, _ := Build("abc", l)
	for i, y := range x {
		for j, d := range y {
			for n := range d[:cap(d)] {
				d[:cap(d)][n] = put("overwritten")
			}
			want[i][j] = wholeTiers(rows(row(d)))[0][0]
			if !sameTiers(wholeTiers(x), want) {
				t.Fatalf("block %d of level %d shares memory with another", j, i)
			}
		}
	}
	for i, y := range x {
		for j := range y[:cap(y)] {
			y[:cap(y)][j] = nil
		}
		want[i] = make([][]api.Part, cap(y))
		if !sameTiers(wholeTiers(x), want) {
			t.Fatalf("level %d shares memory with another", i)
		}
	}
	testTiers(t, again, l)
	if !sameRevs(whole(l), was) {
		t.Error("the answer shares memory with what was handed in")
	}
}

func TestBetweenAnswersNewMemory(t *testing.T) {
	l := roomyStory(bytesOf(40))
	built, _ := Build("abc", l)
	x := roomyTiers(built)
	was := wholeTiers(x)
	for k := range len(l) + 1 {
		for i := range k {
			d, e := Between(x, i, k)
			again, _ := Between(x, i, k)
			kept := slices.Clone(again)
			if e != api.OK {
				t.Fatal(e)
			}
			for _, s := range textsOf(rows(row(d))) {
				if slices.ContainsFunc(textsOf(x), func(in string) bool { return inside(s, in) }) {
					t.Errorf("%d %d: the text that is put is one that was handed in", i, k)
				}
			}
			for j := range d[:cap(d)] {
				d[:cap(d)][j] = put("overwritten")
			}
			if !slices.Equal(again, kept) || !sameTiers(wholeTiers(x), was) {
				t.Errorf("%d %d: the answer shares memory", i, k)
			}
		}
	}
}

func TestNothingHandedInIsKept(t *testing.T) {
	l := roomyStory("text")
	x, _ := Build("abc", l)
	was := wholeTiers(x)
	for i := range l {
		for j := range l[i].Delta {
			l[i].Delta[j] = put("other")
		}
	}
	if !sameTiers(wholeTiers(x), was) {
		t.Errorf("%v hangs on what was handed in when that is changed later", was)
	}
	for i := range 5 {
		d, _ := Between(x, i, i+1)
		kept := slices.Clone(d)
		for j := range x[0][i] {
			x[0][i][j] = put("other")
		}
		if !slices.Equal(d, kept) {
			t.Errorf("%v hangs on tiers that were changed later", kept)
		}
	}
}
