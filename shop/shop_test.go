package shop_test

import (
	"fmt"
	"math"
	"math/rand"
	"reflect"
	"slices"
	"strings"
	"testing"

	"scrivenry/api"
	"scrivenry/apply"
	"scrivenry/hot"
	"scrivenry/revs"
	"scrivenry/shop"
)

func TestNew(t *testing.T) {
	if e := headOf(1, 0, "", table{}); e[:21] != "\x01\x00\x12\x01"+strings.Repeat("\x00", 17) || len(e) != 25 {
		t.Fatalf("%x", e)
	}
	want := answers{disk: pair(safe(headOf(1, 0, "", table{})+done), api.Slot{}), texts: []string{""}}
	s := shop.New()
	is(t, "new", s, want)
	other := shop.New()
	add(t, other, rev(1, 1, put("a")))
	if other.Keep(1) != api.OK || !other.Step() {
		t.Error("no move")
	}
	is(t, "new, when another is at work", s, want)
	is(t, "new, later", shop.New(), want)
	if s.Step() {
		t.Error("a new archive moves")
	}
}

// someTable has another number at each place.
func someTable() table {
	var l table
	for who := range l {
		l[who] = api.Sess{Seq: 100 * who, Rev: 1 + 300*who}
	}
	return l
}

func fullTable() table {
	var l table
	for who := range l {
		l[who] = api.Sess{Seq: most, Rev: most}
	}
	return l
}

// someRevs may stand behind someTable and the text ab.
func someRevs() []api.Rev {
	return []api.Rev{rev(1, 101, keep(2), put("c")), rev(3, 333, cut(1), keep(2)), rev(1, 400, keep(1), put("\x00\xff"), cut(1))}
}

// someLog is a log that is whole, with so many of someRevs, and what an archive tells that has it.
func someLog(gen, n int) (string, answers) {
	l := someRevs()[:n]
	a := answers{base: 30, head: 30 + n, safe: 30 + n, last: someTable(), revs: l}
	a.texts = []string{"ab", "abc", "bc", "b\x00\xff"}[:1+n]
	for i, r := range l {
		a.last[r.Who] = api.Sess{Seq: r.Seq, Rev: 31 + i}
	}
	return headOf(gen, 30, "ab", someTable()) + done + revsOf(l...), a
}

func TestOpen(t *testing.T) {
	for n := range 4 {
		data, want := someLog(4, n)
		for i := range 2 {
			want.disk = at(i, safe(data), api.Slot{})
			is(t, "alone", open(t, at(i, safe(data), api.Slot{})), want)
			is(t, "nothing was safe", open(t, at(i, api.Slot{Data: data}, api.Slot{})), want)
			is(t, "some was safe", open(t, at(i, api.Slot{Data: data, Safe: 9}, api.Slot{})), want)
		}
	}
	data := headOf(most, most, bytesOf(500), fullTable()) + done
	is(t, "as great as can be", open(t, pair(api.Slot{}, safe(data))), answers{
		disk: pair(api.Slot{}, safe(data)), base: most, head: most, safe: most, last: fullTable(), texts: []string{bytesOf(500)},
	})
	data = headOf(0, 0, "", table{}) + done
	is(t, "gen 0", open(t, pair(safe(data), api.Slot{})), answers{disk: pair(safe(data), api.Slot{}), texts: []string{""}})
}

func TestOpenTrimsWhatIsNotGood(t *testing.T) {
	r := someRevs()
	for _, behind := range []string{
		"\x00", "xyz", strings.Repeat("\x00", 5000), bytesOf(1 << 19), done, headOf(5, 30, "ab", someTable()),
		revOf(r[1])[:9], revOf(r[0]), revOf(rev(1, 500, keep(4))), revOf(r[2]) + revOf(r[1]), framed(4, "") + revOf(r[1]),
	} {
		data, want := someLog(4, 1)
		for i := range 2 {
			want.disk = at(i, safe(data), api.Slot{})
			for _, n := range []int{0, 7, len(data) - 1, len(data), len(data) + 1, len(data) + len(behind)} {
				d := at(i, api.Slot{Data: data + behind, Safe: n}, api.Slot{Data: "something", Safe: 4})
				is(t, fmt.Sprintf("%.20q behind, %d safe", behind, n), open(t, d), want)
			}
		}
	}
	data, want := someLog(4, 3)
	want.disk = pair(safe(data), api.Slot{})
	d := pair(safe(data+bytesOf(1<<20-len(data))), safe(bytesOf(1<<20)))
	is(t, "both as great as can be", open(t, d), want)
}

// notWhole are logs that are not.
func notWhole() []string {
	r := someRevs()
	h := headOf(9, 30, "ab", someTable())
	whole, _ := someLog(9, 1)
	return []string{
		"", "\x00", "something", bytesOf(1 << 20), done, done + whole, revOf(r[0]) + done, whole[1:], "\x00" + whole, h[:len(h)-1],
		h, h + revsOf(r...), h + done[:6], h + done[:6] + "\x8b", h + "\x00" + done, h + h + done, h + revOf(r[1]) + revOf(r[1]) + done,
		h + framed(3, "\x00"), h + framed(4, "") + done, headOf(9, 30, bytesOf(501), someTable()) + done,
		framed(1, "\x89\x00"+strings.Repeat("\x00", 17)) + done,
	}
}

func TestOpenChooses(t *testing.T) {
	for _, gens := range [][2]int{{1, 2}, {2, 1}, {0, 1}, {1, 0}, {127, 128}, {256, 255}, {most, most - 1}, {0, most}} {
		a, wantA := someLog(gens[0], 1)
		b, wantB := someLog(gens[1], 3)
		wantA.disk, wantB.disk = pair(safe(a), api.Slot{}), pair(api.Slot{}, safe(b))
		if gens[0] > gens[1] {
			is(t, "slot 0", open(t, pair(safe(a), safe(b))), wantA)
			is(t, "slot 0, none safe", open(t, pair(api.Slot{Data: a}, safe(b))), wantA)
			continue
		}
		is(t, "slot 1", open(t, pair(safe(a), safe(b))), wantB)
		is(t, "slot 1, none safe", open(t, pair(safe(a), api.Slot{Data: b})), wantB)
	}
	for _, gen := range []int{0, 1, 5, most} {
		a, want := someLog(gen, 1)
		b, _ := someLog(gen, 3)
		want.disk = pair(safe(a), api.Slot{})
		is(t, "the same gen", open(t, pair(safe(a), safe(b))), want)
		is(t, "the same gen, none safe", open(t, pair(api.Slot{Data: a}, safe(b))), want)
	}
	for _, gen := range []int{0, 4, 9, 10} {
		data, want := someLog(gen, 2)
		for _, other := range notWhole() {
			for i := range 2 {
				want.disk = at(i, safe(data), api.Slot{})
				is(t, fmt.Sprintf("beside %.40q", other), open(t, at(i, safe(data), safe(other))), want)
			}
		}
	}
}

func TestOpenErrors(t *testing.T) {
	for _, a := range notWhole() {
		for _, b := range notWhole() {
			if s, e := shop.Open(pair(safe(a), api.Slot{Data: b})); s != nil || e != api.ErrCorrupt {
				t.Errorf("%.40q and %.40q: %d", a, b, e)
			}
		}
	}
	whole, _ := someLog(4, 2)
	large := bytesOf(1<<20 + 1)
	for _, right := range []api.Slot{safe(whole), {}, safe("something")} {
		for i := range 2 {
			for _, x := range []struct {
				s    api.Slot
				want api.Errno
			}{
				{api.Slot{Data: large}, api.ErrLarge},
				{api.Slot{Data: large, Safe: -1}, api.ErrLarge},
				{api.Slot{Data: whole + large}, api.ErrLarge},
				{api.Slot{Data: whole, Safe: -1}, api.ErrForm},
				{api.Slot{Data: whole, Safe: len(whole) + 1}, api.ErrForm},
				{api.Slot{Data: whole, Safe: math.MaxInt}, api.ErrForm},
				{api.Slot{Data: whole, Safe: math.MinInt}, api.ErrForm},
				{api.Slot{Safe: 1}, api.ErrForm},
			} {
				if s, e := shop.Open(at(i, x.s, right)); s != nil || e != x.want {
					t.Errorf("%.20q, %d safe: %d, not %d", x.s.Data, x.s.Safe, e, x.want)
				}
			}
		}
	}
	if s, e := shop.Open(pair(api.Slot{Data: "a", Safe: 2}, api.Slot{Data: large})); s != nil || e != api.ErrForm {
		t.Errorf("both wrong: %d", e)
	}
}

func TestAddAndSync(t *testing.T) {
	s := shop.New()
	want := answers{disk: pair(safe(headOf(1, 0, "", table{})+done), api.Slot{}), texts: []string{""}}
	for i, x := range []struct {
		r    api.Rev
		text string
		sync bool
	}{
		{rev(1, 1, put("abc")), "abc", false},
		{rev(1, 2, keep(1), put("X"), keep(2)), "aXbc", true},
		{rev(0, 7, cut(1), keep(3)), "Xbc", false},
		{rev(7, most, keep(3)), "Xbc", false},
		{rev(2, 300, cut(3)), "", true},
		{rev(1, 3), "", false},
		{rev(1, 40, put(bytesOf(500))), bytesOf(500), false},
		{rev(0, 8, put("\x00\xff"), cut(499), keep(1)), "\x00\xffx", true},
	} {
		add(t, s, x.r)
		want.head = i + 1
		want.disk.Slots[0].Data += revOf(x.r)
		want.last[x.r.Who] = api.Sess{Seq: x.r.Seq, Rev: i + 1}
		want.texts = append(want.texts, x.text)
		want.revs = append(want.revs, x.r)
		is(t, fmt.Sprint("added ", i+1), s, want)
		if x.sync {
			s.Sync()
			want.safe = i + 1
			want.disk.Slots[0].Safe = len(want.disk.Slots[0].Data)
			is(t, fmt.Sprint("safe ", i+1), s, want)
		}
	}
	s.Sync()
	is(t, "safe already", s, want)
	is(t, "opened again", open(t, s.Disk()), want)
}

func TestAddGoesBehindTheSlotThatItIsAt(t *testing.T) {
	for i := range 2 {
		data, want := someLog(4, 2)
		s := open(t, at(i, safe(data), safe("something")))
		add(t, s, someRevs()[2])
		all, now := someLog(4, 3)
		now.disk = at(i, api.Slot{Data: all, Safe: len(data)}, api.Slot{})
		now.safe = want.head
		is(t, "added", s, now)
		s.Sync()
		now.disk = at(i, safe(all), api.Slot{})
		now.safe = now.head
		is(t, "safe", s, now)
	}
}

func TestAddErrors(t *testing.T) {
	data, _ := someLog(4, 3) // Its text has three bytes, its hand 1 is at 400, hand 2 at 200.
	for _, x := range []struct {
		name string
		r    api.Rev
		want api.Errno
	}{
		{"hand -1", rev(-1, 1, keep(3)), api.ErrArg},
		{"hand 8", rev(8, 1, keep(3)), api.ErrArg},
		{"a great hand", rev(math.MaxInt, 1, keep(3)), api.ErrArg},
		{"number -1", rev(0, -1, keep(3)), api.ErrArg},
		{"number 2^31", rev(0, most+1, keep(3)), api.ErrArg},
		{"its hand ahead of its delta", rev(8, 1, keep(0)), api.ErrArg},
		{"no parts there", rev(2, 201, keep(0)), api.ErrForm},
		{"its delta ahead of its number", rev(2, 200, keep(0)), api.ErrForm},
		{"too many parts", rev(2, 201, make([]api.Part, 1601)...), api.ErrLarge},
		{"too large", rev(2, 201, keep(3), put(bytesOf(498))), api.ErrLarge},
		{"the same number", rev(2, 200, keep(3)), api.ErrSeq},
		{"a number that was passed", rev(1, 399, keep(3)), api.ErrSeq},
		{"the last number of a revision", rev(1, 400, keep(3)), api.ErrSeq},
		{"number 0", rev(0, 0, keep(3)), api.ErrSeq},
		{"its number ahead of its length", rev(1, 400, keep(2)), api.ErrSeq},
		{"of a shorter text", rev(2, 201, keep(2)), api.ErrLen},
		{"of a longer text", rev(2, 201, keep(4)), api.ErrLen},
		{"of none", rev(2, 201), api.ErrLen},
	} {
		s := open(t, pair(api.Slot{}, safe(data)))
		was := ask(t, s)
		if n, e := s.Add(x.r); n != 0 || e != x.want {
			t.Errorf("%s: %d %d, not %d", x.name, n, e, x.want)
		}
		is(t, x.name, s, was)
		add(t, s, rev(2, 201, keep(3)))
	}
}

func TestAddFull(t *testing.T) {
	for _, x := range []struct{ base, n int }{
		{0, 64}, {1000, 64}, {most - 64, 64}, {most - 63, 63}, {most - 2, 2}, {most - 1, 1}, {most, 0},
	} {
		s := open(t, pair(safe(headOf(1, x.base, "t", table{})+done), api.Slot{}))
		for i := range x.n {
			add(t, s, rev(i%8, 1+i/8, keep(1)))
		}
		was := ask(t, s)
		if was.head != x.base+x.n {
			t.Errorf("%v: %d", x, was.head)
		}
		for _, y := range []struct {
			r    api.Rev
			want api.Errno
		}{
			{rev(1, 90, keep(1)), api.ErrFull}, {rev(1, 90, keep(2)), api.ErrFull},
			{rev(1, 0, keep(1)), api.ErrSeq}, {rev(1, 90, cut(0)), api.ErrForm}, {rev(9, 90, keep(1)), api.ErrArg},
		} {
			if n, e := s.Add(y.r); n != 0 || e != y.want {
				t.Errorf("%v, %v: %d %d", x, y, n, e)
			}
			is(t, "full", s, was)
		}
	}
}

// Add's error is Next's, of the log that the slot says, and the text that is last there.
func TestAddHasNextsError(t *testing.T) {
	r := rand.New(rand.NewSource(1))
	added := 0
	for range 200 {
		s := shop.New()
		for range 30 {
			l, _ := hot.Read(s.Disk().Slots[0].Data)
			text, _ := revs.Text(l.Text, l.Revs, len(l.Revs))
			v := rev(r.Intn(9), r.Intn(40), anyDelta(r, max(len(text)+r.Intn(8)/6-r.Intn(8)/6, 0))...)
			want := hot.Next(l, len(text), v)
			n, e := s.Add(v)
			if e != want || (e == api.OK) != (n == len(l.Revs)+1) || (e != api.OK && n != 0) {
				t.Fatalf("%v: %d %d, not %d", v, n, e, want)
			}
			added += n
		}
	}
	if added < 1000 {
		t.Error("too few are added")
	}
}

// longest has as many parts as a delta can, or as many bytes.
func longest() [][]api.Part {
	return [][]api.Part{
		slices.Repeat(parts(put("a"), cut(1), keep(1)), 250),
		parts(put(bytesOf(500)), cut(500)),
		append(slices.Repeat(parts(put("a"), keep(1)), 249), put(bytesOf(2)), cut(251)),
	}
}

func TestThereIsAlwaysRoom(t *testing.T) {
	s := open(t, pair(safe(headOf(1, 0, bytesOf(500), table{})+done), api.Slot{}))
	n := 0
	fill := func() {
		for s.Head() < s.Base()+64 {
			n++
			add(t, s, rev(n%8, n, longest()[n%3]...))
		}
	}
	for i := range 3 {
		fill()
		if s.Keep(s.Head()) != api.OK {
			t.Fatal("no move")
		}
		for range 3 {
			step(t, s)
		}
		fill()
		s.Sync()
		want := ask(t, s)
		for i, r := range want.revs {
			if x, e := apply.Do(r.Delta, want.texts[i]); x != want.texts[i+1] || e != api.OK {
				t.Fatalf("revision %d", i)
			}
		}
		want.disk.Slots[i%2] = api.Slot{}
		is(t, "opened again", open(t, s.Disk()), want)
		step(t, s)
		is(t, "moved", s, want)
	}
}

func TestAnyBytes(t *testing.T) {
	r := rand.New(rand.NewSource(2))
	opened := 0
	for range 20000 {
		a, _ := someLog(r.Intn(5), r.Intn(4))
		b, _ := someLog(r.Intn(5), r.Intn(4))
		d := pair(safe(changed(r, a)), api.Slot{Data: changed(r, b)})
		s, e := shop.Open(d)
		if e == api.ErrCorrupt && s == nil {
			continue
		}
		if e != api.OK || s == nil {
			t.Fatalf("%v: %d", d, e)
		}
		opened++
		was := ask(t, s)
		is(t, "opened again", open(t, s.Disk()), was)
	}
	if opened < 1000 || opened > 19000 {
		t.Errorf("%d opened", opened)
	}
}

// changed is s with some bytes changed, or cut off.
func changed(r *rand.Rand, s string) string {
	b := []byte(s)
	for range r.Intn(3) {
		b[r.Intn(len(b))] ^= 1 << r.Intn(8)
	}
	if r.Intn(2) == 0 {
		b = b[:r.Intn(len(b))]
	}
	return string(b)
}

func TestNothingHandedInIsChangedOrKept(t *testing.T) {
	room := parts(keep(1), put("spare"), cut(1), keep(1), keep(1))
	was := slices.Clone(room)
	s := open(t, pair(safe(headOf(1, 0, "abc", table{})+done), api.Slot{}))
	for n := range len(room) + 1 {
		s.Add(rev(1, n+1, room[:n]...))
	}
	if !slices.Equal(room, was) || s.Head() != 1 {
		t.Errorf("what was handed in is changed: %v", room)
	}
	now := ask(t, s)
	for i := range room {
		room[i] = put("mine")
	}
	is(t, "when what was handed in is changed", s, now)
	if s.Keep(0) != api.OK || !s.Step() || !s.Step() || s.Disk().Slots[1].Data != headOf(2, 0, "abc", table{})+revOf(now.revs[0]) {
		t.Error("what was handed in is kept")
	}
}

func TestAnswersAreNewMemory(t *testing.T) {
	data, _ := someLog(4, 3)
	s := open(t, pair(safe(data), api.Slot{}))
	add(t, s, rev(2, 201, put("text"), keep(3)))
	add(t, s, rev(2, 202, keep(7)))
	was := ask(t, s)
	for range 2 {
		l, _ := s.Revs(30)
		l = l[:cap(l)]
		for i := range l {
			d := l[i].Delta[:cap(l[i].Delta)]
			for k := range d {
				d[k] = put("mine")
			}
			l[i] = rev(-1, -1)
		}
		is(t, "when an answer is changed", s, was)
	}
	for i := range 5 {
		l, _ := s.Revs(30)
		d := l[i].Delta[:cap(l[i].Delta)]
		for k := range d {
			d[k] = put("mine")
		}
		l[i] = was.revs[i]
		if !reflect.DeepEqual(l, was.revs) {
			t.Errorf("revision %d shares memory with another", i)
		}
	}
}
