package hot

import (
	"encoding/binary"
	"fmt"
	"hash/crc32"
	"math"
	"math/rand"
	"reflect"
	"slices"
	"strings"
	"testing"
	"unsafe"

	"scrivenry/api"
	"scrivenry/apply"
	"scrivenry/part"
	"scrivenry/revs"
)

const most = 1<<31 - 1

type table = [8]api.Sess

func keep(n int) api.Part { return api.Part{Kind: api.Keep, N: n} }

func cut(n int) api.Part { return api.Part{Kind: api.Cut, N: n} }

func put(s string) api.Part { return api.Part{Kind: api.Put, Text: s} }

func parts(l ...api.Part) []api.Part { return l }

func bytesOf(n int) string { return strings.Repeat("x", n) }

func rev(who, seq int, l ...api.Part) api.Rev { return api.Rev{Who: who, Seq: seq, Delta: l} }

func list(l ...api.Rev) []api.Rev { return l }

// framed has the bytes of a frame, by the library.
func framed(kind byte, body string) string {
	b := binary.BigEndian.AppendUint16([]byte{kind}, uint16(len(body)))
	b = append(b, body...)
	sum := crc32.Checksum(b, crc32.MakeTable(crc32.Castagnoli))
	return string(binary.LittleEndian.AppendUint32(b, sum))
}

// nums has the bytes of numbers, by the library.
func nums(l ...int) string {
	var b []byte
	for _, n := range l {
		b = binary.AppendUvarint(b, uint64(n))
	}
	return string(b)
}

func headNumsOf(gen, base int, first table) []int {
	l := []int{gen, base}
	for _, s := range first {
		l = append(l, s.Seq, s.Rev)
	}
	return l
}

func headOf(gen, base int, text string, first table) string {
	return framed(1, nums(headNumsOf(gen, base, first)...)+text)
}

// deltaOf writes parts as code.Write does, whether they are a delta or not.
func deltaOf(l ...api.Part) string {
	s := nums(len(l))
	for _, p := range l {
		s += nums(4*(p.N+len(p.Text))+p.Kind) + p.Text
	}
	return s
}

func revOf(r api.Rev) string { return framed(2, nums(r.Who, r.Seq)+deltaOf(r.Delta...)) }

func revsOf(l []api.Rev) string {
	s := ""
	for _, r := range l {
		s += revOf(r)
	}
	return s
}

const done = "\x03\x00\x00\x09\x63\x4a\x8a"

// someTable has another number at each place.
func someTable() table {
	var l table
	for who := range l {
		l[who] = api.Sess{Seq: 100 * who, Rev: 1 + 300*who}
	}
	return l
}

func fullTable() table {
	var l table
	for who := range l {
		l[who] = api.Sess{Seq: most, Rev: most}
	}
	return l
}

func TestHead(t *testing.T) {
	noughts := strings.Repeat("\x00", 16)
	for _, x := range []struct {
		name      string
		gen, base int
		text      string
		first     table
		body      string
	}{
		{"nothing", 0, 0, "", table{}, "\x00\x00" + noughts},
		{"gen 1", 1, 0, "", table{}, "\x01\x00" + noughts},
		{"gen, base and text", 4, 3, "ab", table{}, "\x04\x03" + noughts + "ab"},
		{"wide numbers", 300, 128, "ab", table{}, "\xac\x02\x80\x01" + noughts + "ab"},
		{"the first hand", 1, 9, "", table{{Seq: 5, Rev: 6}}, "\x01\x09\x05\x06" + noughts[2:]},
		{"the last hand", 1, 9, "t", table{7: {Seq: 5, Rev: 6}}, "\x01\x09" + noughts[2:] + "\x05\x06t"},
		{"a revision behind base", 1, 0, "", table{2: {Seq: 1, Rev: 9}}, "\x01\x00\x00\x00\x00\x00\x01\x09" + noughts[6:]},
		{"any bytes", 1, 0, "\x00\xff\n\xc3", table{}, "\x01\x00" + noughts + "\x00\xff\n\xc3"},
		{"500 bytes", 1, 0, bytesOf(500), table{}, "\x01\x00" + noughts + bytesOf(500)},
		{"all as great as can be", most, most, bytesOf(500), fullTable(), strings.Repeat("\xff\xff\xff\xff\x07", 18) + bytesOf(500)},
		{"a number of its own each", 7, 8, "x", someTable(), nums(headNumsOf(7, 8, someTable())...) + "x"},
	} {
		if s, e := Head(x.gen, x.base, x.text, x.first); s != framed(1, x.body) || e != api.OK {
			t.Errorf("%s: %.60x %d, not %.60x", x.name, s, e, framed(1, x.body))
		}
	}
}

func outside() []int {
	return []int{-1, -2, -most, math.MinInt32, math.MinInt, most + 1, most + 2, 1 << 32, 1<<32 + 1, math.MaxInt}
}

func TestHeadErrors(t *testing.T) {
	for _, text := range []string{"", "ab", bytesOf(500), bytesOf(501), bytesOf(5000)} {
		for _, n := range outside() {
			for at := range 18 {
				l := headNumsOf(1, 2, someTable())
				l[at] = n
				var first table
				for who := range first {
					first[who] = api.Sess{Seq: l[2+2*who], Rev: l[3+2*who]}
				}
				if s, e := Head(l[0], l[1], text, first); s != "" || e != api.ErrArg {
					t.Errorf("%v, %d bytes: %.60x %d", l, len(text), s, e)
				}
			}
		}
	}
	for _, n := range []int{501, 502, 4000, 4001, 1 << 16, 1 << 20} {
		if s, e := Head(most, most, bytesOf(n), fullTable()); s != "" || e != api.ErrLarge {
			t.Errorf("%d bytes: %.60x %d", n, s, e)
		}
	}
}

// longest has as many parts as a delta can, or as many bytes.
func longest() [][]api.Part {
	return [][]api.Part{
		slices.Repeat(parts(put("a"), cut(1), keep(1)), 250),
		parts(put(bytesOf(500)), cut(500)),
		append(slices.Repeat(parts(put("a"), keep(1)), 249), put(bytesOf(2)), cut(251)),
	}
}

func TestRev(t *testing.T) {
	for _, x := range []struct {
		name string
		r    api.Rev
		body string
	}{
		{"nothing", rev(0, 0), "\x00\x00\x00"},
		{"keep", rev(1, 1, keep(2), put("c")), "\x01\x01\x02\x09\x06c"},
		{"all kinds", rev(7, 300, keep(2), put("ab"), cut(3)), "\x07\xac\x02\x03\x09\x0aab\x0f"},
		{"the greatest number", rev(7, most, keep(1)), "\x07\xff\xff\xff\xff\x07\x01\x05"},
		{"any bytes", rev(2, 128, put("\x00\xff")), "\x02\x80\x01\x01\x0a\x00\xff"},
	} {
		if s, e := Rev(x.r); s != framed(2, x.body) || e != api.OK {
			t.Errorf("%s: %x %d, not %x", x.name, s, e, framed(2, x.body))
		}
	}
	for _, d := range longest() {
		r := rev(7, most, d...)
		if s, e := Rev(r); s != revOf(r) || e != api.OK {
			t.Errorf("%.40v: %.60x %d", d, s, e)
		}
	}
}

// wrongRevs have an error of revs.One's.
func wrongRevs() []api.Rev {
	var l []api.Rev
	for _, who := range []int{-1, 8, 9, 256, 1 << 32, math.MinInt, math.MaxInt} {
		l = append(l, rev(who, 1, keep(2)), rev(who, -1, keep(0)), rev(who, 0))
	}
	for _, seq := range outside() {
		l = append(l, rev(0, seq, keep(2)), rev(7, seq, keep(0)))
	}
	for _, d := range [][]api.Part{
		parts(keep(0)), parts(put("")), parts(api.Part{}), parts(api.Part{Kind: 4, N: 1}), parts(keep(1), keep(1)),
		parts(cut(1), put("a")), parts(keep(501)), parts(put(bytesOf(501))), parts(keep(400), cut(101)),
		make([]api.Part, 1600), make([]api.Part, 1601), parts(cut(math.MaxInt)), parts(cut(math.MinInt)),
	} {
		l = append(l, rev(1, 1, d...), rev(0, 0, d...))
	}
	return l
}

func TestRevErrors(t *testing.T) {
	for _, r := range wrongRevs() {
		want := revs.One(r)
		if s, e := Rev(r); s != "" || e != want || e == api.OK {
			t.Errorf("%.40v: %.60x %d, not %d", r, s, e, want)
		}
	}
}

func TestDone(t *testing.T) {
	if s := Done(); s != done || s != framed(3, "") {
		t.Errorf("%x", s)
	}
}

// fullLog has n revisions behind base, and someTable as its table.
func fullLog(base, n int) api.Log {
	return api.Log{Base: base, Table: someTable(), Revs: make([]api.Rev, n)}
}

func TestNextTakes(t *testing.T) {
	for _, x := range []struct {
		name string
		l    api.Log
		size int
		r    api.Rev
	}{
		{"the first of all", api.Log{}, 0, rev(0, 1)},
		{"of no bytes", api.Log{}, 0, rev(0, 1, put("a"))},
		{"of 500", api.Log{}, 500, rev(7, 1, keep(499), cut(1))},
		{"the greatest number", api.Log{}, 2, rev(7, most, keep(2))},
		{"one more", fullLog(0, 0), 2, rev(3, 301, keep(2))},
		{"many more", fullLog(0, 0), 2, rev(3, 400, keep(2))},
		{"less than another hand's", fullLog(0, 0), 2, rev(0, 1, keep(2))},
		{"behind the greatest but one", api.Log{Table: table{5: {Seq: most - 1}}}, 0, rev(5, most)},
		{"the 64th", fullLog(0, 63), 2, rev(1, 101, keep(2))},
		{"the last number", fullLog(most-1, 0), 2, rev(1, 101, keep(2))},
		{"the last number, as the second", fullLog(most-2, 1), 2, rev(1, 101, keep(2))},
		{"the last number, as the 64th", fullLog(most-64, 63), 2, rev(1, 101, keep(2))},
	} {
		if e := Next(x.l, x.size, x.r); e != api.OK {
			t.Errorf("%s: %d", x.name, e)
		}
	}
}

func TestNextErrors(t *testing.T) {
	late := rev(3, 301, keep(2))
	for _, x := range []struct {
		name string
		l    api.Log
		size int
		r    api.Rev
		want api.Errno
	}{
		{"0 of none", api.Log{}, 0, rev(0, 0), api.ErrSeq},
		{"the same", fullLog(0, 0), 2, rev(3, 300, keep(2)), api.ErrSeq},
		{"one less", fullLog(0, 0), 2, rev(3, 299, keep(2)), api.ErrSeq},
		{"0 of some", fullLog(0, 0), 2, rev(7, 0, keep(2)), api.ErrSeq},
		{"behind the greatest", api.Log{Table: fullTable()}, 2, rev(7, most, keep(2)), api.ErrSeq},
		{"its First is not asked", api.Log{First: fullTable()}, 2, rev(3, 0, keep(2)), api.ErrSeq},
		{"passed ahead of full", fullLog(0, 64), 2, rev(3, 300, keep(2)), api.ErrSeq},
		{"passed ahead of its length", fullLog(0, 0), 5, rev(3, 300, keep(2)), api.ErrSeq},
		{"64", fullLog(0, 64), 2, late, api.ErrFull},
		{"65", fullLog(0, 65), 2, late, api.ErrFull},
		{"1000", fullLog(0, 1000), 2, late, api.ErrFull},
		{"base alone", fullLog(most, 0), 2, late, api.ErrFull},
		{"base and one", fullLog(most-1, 1), 2, late, api.ErrFull},
		{"base and one, beyond", fullLog(most, 1), 2, late, api.ErrFull},
		{"base and 63", fullLog(most-63, 63), 2, late, api.ErrFull},
		{"both", fullLog(most, 64), 2, late, api.ErrFull},
		{"full ahead of its length", fullLog(0, 64), 5, late, api.ErrFull},
		{"base full ahead of its length", fullLog(most, 0), 5, late, api.ErrFull},
		{"too long", fullLog(0, 0), 1, late, api.ErrLen},
		{"too short", fullLog(0, 0), 3, late, api.ErrLen},
		{"as long as what comes of it", fullLog(0, 0), 4, rev(3, 301, keep(2), put("ab")), api.ErrLen},
		{"below 0", fullLog(0, 0), -2, late, api.ErrLen},
		{"far below 0", fullLog(0, 0), math.MinInt, late, api.ErrLen},
		{"by far", fullLog(0, 0), math.MaxInt, late, api.ErrLen},
		{"not its text's length", api.Log{Text: "abc"}, 2, rev(3, 301, keep(3)), api.ErrLen},
	} {
		if e := Next(x.l, x.size, x.r); e != x.want {
			t.Errorf("%s: %d, not %d", x.name, e, x.want)
		}
	}
}

func TestNextHasOnesErrorFirst(t *testing.T) {
	for _, l := range []api.Log{{}, fullLog(0, 0), fullLog(most, 64), {Table: fullTable()}} {
		for _, size := range []int{0, 2, 501, -1} {
			for _, r := range wrongRevs() {
				if e, want := Next(l, size, r), revs.One(r); e != want {
					t.Errorf("%.40v: %d, not %d", r, e, want)
				}
			}
		}
	}
}

// asked is a log that Read should tell of s.
type asked struct {
	name, s string
	want    api.Log
}

// tabled is first, and for each revision its hand's number and which it is.
func tabled(first table, base int, l []api.Rev) table {
	for i, r := range l {
		first[r.Who] = api.Sess{Seq: r.Seq, Rev: base + 1 + i}
	}
	return first
}

// some is a head with someTable, and what a log with these revisions and no more is.
func some(whole bool, l ...api.Rev) (string, api.Log) {
	first := someTable()
	h := headOf(4, 30, "ab", first)
	good := len(h) + len(revsOf(l))
	if whole {
		good += len(done)
	}
	return h, api.Log{Gen: 4, Base: 30, Text: "ab", First: first, Table: tabled(first, 30, l), Revs: l, Whole: whole, Good: good}
}

// twoRevs are right behind some's head.
func twoRevs() (a, b api.Rev) {
	return rev(1, 101, keep(2), put("c")), rev(2, 201, put("\x00\xff"), cut(1), keep(2))
}

func rightLogs() []asked {
	a, b := twoRevs()
	ra, rb := revOf(a), revOf(b)
	h, none := some(false)
	_, whole := some(true)
	_, one := some(false, a)
	_, two := some(true, a, b)
	again := rev(1, 110, cut(1), keep(2))
	_, three := some(true, a, again, rev(1, most, keep(2)))
	end := revOf(again) + revOf(rev(1, most, keep(2)))
	l := []asked{
		{"a head", h, none},
		{"and done", h + done, whole},
		{"a revision", h + ra, one},
		{"two, then done", h + ra + rb + done, two},
		{"done between", h + ra + done + rb, two},
		{"done ahead", h + done + ra + rb, two},
		{"three of one hand", h + ra + end + done, three},
	}
	for _, text := range []string{"", "\x00", bytesOf(500)} {
		s := headOf(most, most, text, fullTable())
		l = append(l, asked{"a great head", s + done, api.Log{
			Gen: most, Base: most, Text: text, First: fullTable(), Table: fullTable(), Whole: true, Good: len(s) + 7,
		}})
	}
	return l
}

// cutLogs are those of which something behind is left out.
func cutLogs() []asked {
	a, b := twoRevs()
	ra, rb := revOf(a), revOf(b)
	h, none := some(false)
	_, one := some(false, a)
	_, oneWhole := some(true, a)
	broken := rb[:len(rb)-1] + string([]byte{rb[len(rb)-1] ^ 1})
	body := nums(1, 101) + deltaOf(a.Delta...)
	var l []asked
	for _, x := range []struct{ name, s string }{
		{"bytes that are no frame", "xyz"},
		{"a byte", "\x00"},
		{"half a frame", rb[:len(rb)-1]},
		{"a wrong sum", broken},
		{"a head", headOf(4, 30, "ab", someTable())},
		{"a later head", headOf(5, 31, "abc", table{})},
		{"kind 4", framed(4, "")},
		{"kind 255", framed(255, body)},
		{"kind 0", framed(0, "")},
		{"done with a body", framed(3, "\x00")},
		{"done with a revision", framed(3, body)},
		{"a revision without a body", framed(2, "")},
		{"its hand alone", framed(2, nums(1))},
		{"no delta", framed(2, nums(1, 102))},
		{"no parts there", framed(2, nums(1, 102)+"\x01")},
		{"a byte behind its delta", framed(2, nums(1, 102)+deltaOf(keep(3))+"\x00")},
		{"its hand written long", framed(2, "\x81\x00"+nums(102)+deltaOf(keep(3)))},
		{"its number written long", framed(2, "\x01\xe6\x80\x00"+deltaOf(keep(3)))},
		{"its number too great", framed(2, "\x01\x80\x80\x80\x80\x08"+deltaOf(keep(3)))},
		{"its parts' number written long", framed(2, nums(1, 102)+"\x81\x00\x0d")},
		{"a part that is none", framed(2, nums(1, 102)+deltaOf(keep(0), put("a")))},
		{"parts in no form", framed(2, nums(1, 102)+deltaOf(keep(1), keep(2)))},
		{"hand 8", framed(2, nums(8, 102)+deltaOf(keep(3)))},
		{"a great hand", framed(2, nums(most, 102)+deltaOf(keep(3)))},
		{"a number that was passed", revOf(rev(1, 101, keep(3)))},
		{"a number that was passed in the head", revOf(rev(2, 200, keep(3)))},
		{"number 0", revOf(rev(0, 0, keep(3)))},
		{"of a shorter text", revOf(rev(2, 201, keep(2)))},
		{"of a longer text", revOf(rev(2, 201, keep(4)))},
		{"of the text ahead", revOf(rev(2, 201, keep(2), put("d")))},
		{"too large", framed(2, nums(2, 201)+deltaOf(keep(3), put(bytesOf(498))))},
	} {
		l = append(l, asked{x.name, h + ra + x.s, one}, asked{x.name + ", then one that would be right", h + ra + x.s + rb, one})
		l = append(l, asked{x.name + ", then done", h + ra + x.s + done, one}, asked{"done, then " + x.name, h + ra + done + x.s + rb, oneWhole})
	}
	return append(l,
		asked{"a second done", h + ra + done + done + rb, oneWhole},
		asked{"a second done, later", h + done + ra + done + rb, oneWhole},
		asked{"a wrong one first", h + rb[1:] + ra + rb + done, none},
		asked{"a revision two times", h + ra + ra + done, one},
		asked{"two, the other way round", h + revOf(rev(1, 102, keep(3))) + ra, none},
	)
}

func testLog(t *testing.T, name, s string, want api.Log) {
	t.Helper()
	l, e := Read(s)
	if len(l.Revs) == 0 && len(want.Revs) == 0 {
		l.Revs, want.Revs = nil, nil
	}
	if e != api.OK || !reflect.DeepEqual(l, want) {
		t.Fatalf("%s: %.300s %d, not %.300s", name, fmt.Sprint(l), e, fmt.Sprint(want))
	}
}

func TestRead(t *testing.T) {
	for _, x := range append(rightLogs(), cutLogs()...) {
		testLog(t, x.name, x.s, x.want)
	}
	for _, x := range rightLogs() {
		testLog(t, x.name+", and more", x.s+"\x02\x00", x.want)
	}
}

func TestReadErrors(t *testing.T) {
	h, _ := some(false)
	a, _ := twoRevs()
	headNums := nums(headNumsOf(4, 30, someTable())...)
	for _, x := range []struct {
		name, s string
		want    api.Errno
	}{
		{"nothing", "", api.ErrNone},
		{"a byte", "\x01", api.ErrNone},
		{"no frame", "no frame at all", api.ErrNone},
		{"noughts", strings.Repeat("\x00", 100), api.ErrNone},
		{"a head, but a byte", h[:len(h)-1], api.ErrNone},
		{"a head with a byte ahead", "\x00" + h, api.ErrNone},
		{"a head's wrong sum", h[:len(h)-1] + string([]byte{h[len(h)-1] ^ 1}) + h, api.ErrNone},
		{"kind 0", framed(0, headNums), api.ErrNone},
		{"done first", done + h, api.ErrForm},
		{"a revision first", revOf(a) + h, api.ErrForm},
		{"a head as another kind", framed(4, headNums) + h, api.ErrForm},
		{"a head as a revision", framed(2, headNums) + h, api.ErrForm},
		{"no body", framed(1, "") + h, api.ErrForm},
		{"a number too few", framed(1, strings.Repeat("\x00", 17)) + h, api.ErrForm},
		{"the last number cut off", framed(1, strings.Repeat("\x00", 17)+"\x80"), api.ErrForm},
		{"gen written long", framed(1, "\x81\x00"+strings.Repeat("\x00", 17)), api.ErrForm},
		{"the last number written long", framed(1, strings.Repeat("\x00", 17)+"\x80\x00ab"), api.ErrForm},
		{"gen too great", framed(1, "\x80\x80\x80\x80\x08"+strings.Repeat("\x00", 17)), api.ErrForm},
		{"the last number too great", framed(1, strings.Repeat("\x00", 17)+"\x80\x80\x80\x80\x08"), api.ErrForm},
		{"a number of six bytes", framed(1, "\x80\x80\x80\x80\x80\x01"+strings.Repeat("\x00", 17)), api.ErrForm},
		{"501 bytes", headOf(1, 0, bytesOf(501), table{}), api.ErrForm},
		{"as many bytes as there is room for", framed(1, strings.Repeat("\x00", 4000)), api.ErrForm},
	} {
		if l, e := Read(x.s); !reflect.DeepEqual(l, api.Log{}) || e != x.want {
			t.Errorf("%s: %.300s %d, not %d", x.name, fmt.Sprint(l), e, x.want)
		}
	}
}

// many are n revisions of the empty text.
func many(n int) []api.Rev {
	var l []api.Rev
	for i := range n {
		l = append(l, rev(i%8, 1+i/8))
	}
	return l
}

func TestReadTakesNoMoreThanThereIsRoomFor(t *testing.T) {
	for _, x := range []struct{ base, n, want int }{
		{0, 63, 63}, {0, 64, 64}, {0, 65, 64}, {0, 100, 64}, {most - 64, 65, 64},
		{most - 63, 64, 63}, {most - 2, 64, 2}, {most - 1, 64, 1}, {most, 64, 0},
	} {
		l := many(x.n)
		s := headOf(1, x.base, "", table{}) + revsOf(l[:x.want])
		want := api.Log{Gen: 1, Base: x.base, Table: tabled(table{}, x.base, l[:x.want]), Revs: l[:x.want], Good: len(s)}
		testLog(t, fmt.Sprint(x), s+revsOf(l[x.want:]), want)
		want.Whole, want.Good = true, len(s)+7
		testLog(t, fmt.Sprint(x, ", done"), s+done+revsOf(l[x.want:]), want)
		if x.n == x.want {
			continue
		}
		want.Whole, want.Good = false, len(s)
		testLog(t, fmt.Sprint(x, ", done too late"), s+revsOf(l[x.want:])+done, want)
	}
}

// anyDelta is of a text of n bytes, and mostly leaves it short.
func anyDelta(r *rand.Rand, n int) []api.Part {
	var l []api.Part
	for n > 0 {
		k := 1 + r.Intn(n)
		l = append(l, []api.Part{keep(k), cut(k)}[r.Intn(2)])
		n -= k
		if r.Intn(3) == 0 {
			l = append(l, put(bytesOf(r.Intn(5))))
		}
	}
	d, _ := part.Norm(append(l, put(bytesOf(r.Intn(3)))))
	return d
}

// anyRevs are n that may come, one behind the other, behind a text of size bytes and this table.
func anyRevs(r *rand.Rand, first table, size, n int) []api.Rev {
	var l []api.Rev
	for range n {
		who := r.Intn(8)
		first[who].Seq += 1 + r.Intn(200)
		v := rev(who, first[who].Seq, anyDelta(r, size)...)
		_, size, _ = part.Sizes(v.Delta)
		l = append(l, v)
	}
	return l
}

// anyLog is one that is right, with Done behind so many revisions, and the ends of its frames.
func anyLog(r *rand.Rand, n, at int) (s string, l api.Log, ends []int) {
	l = api.Log{Gen: r.Intn(1000), Base: r.Intn(1000), Text: bytesOf(r.Intn(30)), First: someTable()}
	l.Revs = anyRevs(r, l.First, len(l.Text), n)
	s, _ = Head(l.Gen, l.Base, l.Text, l.First)
	ends = append(ends, len(s))
	for i := range n + 1 {
		if i == at {
			s += Done()
			ends = append(ends, len(s))
		}
		if i < n {
			f, _ := Rev(l.Revs[i])
			s += f
			ends = append(ends, len(s))
		}
	}
	l.Table, l.Whole, l.Good = tabled(l.First, l.Base, l.Revs), true, len(s)
	return s, l, ends
}

// beginning is what is left of anyLog's log when only its first k frames are good.
func beginning(l api.Log, ends []int, k, at int) api.Log {
	l.Good, l.Whole = ends[k-1], k-1 > at
	n := k - 1
	if l.Whole {
		n--
	}
	l.Revs = l.Revs[:n]
	l.Table = tabled(l.First, l.Base, l.Revs)
	return l
}

func TestReadWhatWasWritten(t *testing.T) {
	r := rand.New(rand.NewSource(1))
	for n := range 65 {
		s, l, _ := anyLog(r, n, r.Intn(n+1))
		testLog(t, "any log", s, l)
		if e := revs.Check(l.Text, l.Revs); e != api.OK {
			t.Fatalf("no history: %d", e)
		}
	}
}

func upTo(ends []int, n int) int {
	k := 0
	for k < len(ends) && ends[k] <= n {
		k++
	}
	return k
}

func testBeginning(t *testing.T, s string, l api.Log, ends []int, k, at int) {
	t.Helper()
	if k > 0 {
		testLog(t, fmt.Sprint(k, " good frames"), s, beginning(l, ends, k, at))
		return
	}
	if g, e := Read(s); !reflect.DeepEqual(g, api.Log{}) || e != api.ErrNone {
		t.Fatalf("no good frame: %.300s %d", fmt.Sprint(g), e)
	}
}

func TestReadOfALogThatLostItsEnd(t *testing.T) {
	r := rand.New(rand.NewSource(2))
	for _, at := range []int{0, 3, 12} {
		s, l, ends := anyLog(r, 12, at)
		for n := range len(s) + 1 {
			testBeginning(t, s[:n], l, ends, upTo(ends, n), at)
		}
	}
}

func TestReadOfALogWithAByteChanged(t *testing.T) {
	r := rand.New(rand.NewSource(3))
	for _, at := range []int{0, 3, 12} {
		s, l, ends := anyLog(r, 12, at)
		for i := range len(s) {
			b := []byte(s)
			b[i] ^= 1 << r.Intn(8)
			testBeginning(t, string(b), l, ends, upTo(ends, i), at)
		}
	}
}

// hist is a log as a model has it: with its text, not only how long that is.
type hist struct {
	api.Log
	last string
}

// follow adds what a frame says, as the chapter tells it, and by the texts that come of it.
func (h *hist) follow(s string, r *api.Rev) bool {
	switch {
	case s == done && !h.Whole:
		h.Whole = true
	case r != nil && s == revOf(*r) && len(h.Revs) < 64 && h.Base+len(h.Revs) < most && r.Seq > h.Table[r.Who].Seq:
		text, e := apply.Do(r.Delta, h.last)
		if e != api.OK {
			return false
		}
		h.last = text
		h.Revs = append(h.Revs, *r)
		h.Table[r.Who] = api.Sess{Seq: r.Seq, Rev: h.Base + len(h.Revs)}
	default:
		return false
	}
	h.Good += len(s)
	return true
}

// anyFrame is one that a log may have, and its revision, if it is one; size is likely the text's.
func anyFrame(r *rand.Rand, size int) (string, *api.Rev) {
	switch r.Intn(40) {
	case 0:
		return framed(byte(r.Intn(6)), bytesOf(r.Intn(3))), nil
	case 1, 2, 3:
		return done, nil
	case 4:
		return headOf(1, 0, "", table{}), nil
	case 5:
		size += r.Intn(3)
	}
	v := rev(r.Intn(8), r.Intn(1000), anyDelta(r, size)...)
	return revOf(v), &v
}

func TestReadAnyFrames(t *testing.T) {
	r := rand.New(rand.NewSource(4))
	longest, whole := 0, 0
	for range 3000 {
		var first table
		for who := range first {
			first[who] = api.Sess{Seq: r.Intn(300), Rev: r.Intn(50)}
		}
		base := []int{r.Intn(100), most - r.Intn(10)}[r.Intn(2)]
		h := hist{Log: api.Log{Gen: 1, Base: base, Text: "text", First: first, Table: first}, last: "text"}
		s := headOf(1, base, "text", first)
		h.Good = len(s)
		right := true
		for range r.Intn(20) {
			f, v := anyFrame(r, len(h.last))
			s += f
			right = right && h.follow(f, v)
		}
		testLog(t, "any frames", s, h.Log)
		longest = max(longest, len(h.Revs))
		if h.Whole {
			whole++
		}
	}
	if longest < 5 || whole < 100 {
		t.Errorf("%d revisions at most, %d whole", longest, whole)
	}
}

// What Read takes is what Head, Rev and Done write: written again it is the same.
func TestReadTakesOnlyWhatIsWritten(t *testing.T) {
	r := rand.New(rand.NewSource(5))
	taken := 0
	for range 20000 {
		v := rev(r.Intn(10), r.Intn(300), anyDelta(r, 3)...)
		body := []byte(nums(v.Who, v.Seq) + deltaOf(v.Delta...))
		body[r.Intn(len(body))] ^= 1 << r.Intn(8)
		h := headOf(1, 0, "abc", table{})
		s := framed(2, string(body))
		l, e := Read(h + s)
		if e != api.OK {
			t.Fatalf("%x: %d", body, e)
		}
		if len(l.Revs) == 0 {
			continue
		}
		taken++
		if again, e := Rev(l.Revs[0]); again != s || e != api.OK || apply.Fits(l.Revs[0].Delta, 3) != api.OK {
			t.Fatalf("%x: %v", body, l.Revs[0])
		}
	}
	for range 20000 {
		body := []byte(nums(headNumsOf(r.Intn(300), r.Intn(300), someTable())...) + "ab")
		body[r.Intn(len(body))] ^= 1 << r.Intn(8)
		s := framed(1, string(body))
		l, e := Read(s)
		if e != api.OK {
			continue
		}
		taken++
		if again, e := Head(l.Gen, l.Base, l.Text, l.First); again != s || e != api.OK {
			t.Fatalf("%x: %v", body, l)
		}
	}
	if taken < 1000 {
		t.Errorf("%d taken", taken)
	}
}

func TestReadAnyBytes(t *testing.T) {
	r := rand.New(rand.NewSource(6))
	for range 20000 {
		b := make([]byte, r.Intn(60))
		r.Read(b)
		if _, e := Read(string(b)); e != api.ErrNone {
			t.Fatalf("%x: %d", b, e)
		}
		s := framed(byte(r.Intn(5)), string(b))
		if l, e := Read(s); (e == api.OK) != (l.Good == len(s)) {
			t.Fatalf("%x: %v %d", s, l, e)
		}
	}
}

func TestReadOfMuch(t *testing.T) {
	h, want := some(true)
	testLog(t, "done again and again", h+strings.Repeat(done, 1<<20/7), want)
	s := headOf(1, 0, bytesOf(500), table{})
	l := many(64)
	for i := range l {
		l[i].Delta = longest()[i%2]
	}
	testLog(t, "long ones", s+revsOf(l), api.Log{
		Gen: 1, Text: bytesOf(500), Revs: l, Table: tabled(table{}, 0, l), Good: len(s) + len(revsOf(l)),
	})
}

// inside tells if t's bytes are some of those of s.
func inside(s, t string) bool {
	from := uintptr(unsafe.Pointer(unsafe.StringData(s)))
	at := uintptr(unsafe.Pointer(unsafe.StringData(t)))
	return from <= at && at < from+uintptr(len(s))
}

func TestReadAnswersNewMemory(t *testing.T) {
	text := bytesOf(60)
	s := headOf(1, 0, text, table{}) + revOf(rev(1, 1, keep(60), put(text))) + revOf(rev(2, 1, cut(120)))
	l, _ := Read(s)
	if inside(s, l.Text) || inside(s, l.Revs[0].Delta[1].Text) {
		t.Error("an answer lies in what was handed in")
	}
	r := rand.New(rand.NewSource(7))
	s, want, _ := anyLog(r, 11, 4)
	first, _ := Read(s)
	second, _ := Read(s)
	spare := len(second.Revs[:cap(second.Revs)])
	for i := range first.Revs[:cap(first.Revs)] {
		v := &first.Revs[:cap(first.Revs)][i]
		for k := range v.Delta[:cap(v.Delta)] {
			v.Delta[:cap(v.Delta)][k] = put("mine")
		}
		v.Delta = append(v.Delta, put("mine"))
		v.Seq = -1
	}
	for _, v := range second.Revs[len(second.Revs):spare] {
		if v.Seq != 0 || v.Delta != nil {
			t.Error("the spare room of two answers is one")
		}
	}
	if !reflect.DeepEqual(second, want) {
		t.Error("two answers share memory")
	}
	testLog(t, "a later answer", s, want)
}

func TestNoTwoDeltasOfAnAnswerShareMemory(t *testing.T) {
	s, _, _ := anyLog(rand.New(rand.NewSource(8)), 30, 4)
	for i := range 30 {
		l, _ := Read(s)
		was, _ := Read(s)
		d := l.Revs[i].Delta
		for k := range d[:cap(d)] {
			d[:cap(d)][k] = put("mine")
		}
		l.Revs[i], was.Revs[i] = api.Rev{}, api.Rev{}
		if !reflect.DeepEqual(l, was) {
			t.Fatalf("revision %d shares memory with another", i)
		}
	}
}

func TestNothingHandedInIsChanged(t *testing.T) {
	room := parts(keep(2), put("xy"), cut(3), keep(1), put("spare"))
	was := slices.Clone(room)
	log := fullLog(3, 5)
	logWas := fullLog(3, 5)
	for n := range len(room) + 1 {
		Rev(rev(1, 101, room[:n]...))
		for size := range 8 {
			Next(log, size, rev(1, 101, room[:n]...))
		}
	}
	if !slices.Equal(room, was) || !reflect.DeepEqual(log, logWas) {
		t.Error("what was handed in is changed")
	}
}

func TestWritersAnswerNewMemory(t *testing.T) {
	text := bytesOf(60)
	if s, _ := Head(1, 0, text, table{}); inside(s, text) || inside(text, s) {
		t.Error("a head shares memory with what was handed in")
	}
	if s, _ := Rev(rev(1, 1, put(text))); inside(s, text) || inside(text, s) {
		t.Error("a revision shares memory with what was handed in")
	}
}
