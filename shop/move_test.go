package shop_test

import (
	"fmt"
	"math"
	"testing"

	"scrivenry/api"
	"scrivenry/shop"
)

// tale is an archive, and what it should tell.
type tale struct {
	t    *testing.T
	s    *shop.Shop
	want answers
}

func (x *tale) is(name string) {
	x.t.Helper()
	is(x.t, name, x.s, x.want)
}

// adds adds a revision, of which text comes, whose frame should go behind these slots.
func (x *tale) adds(text string, r api.Rev, slots ...int) {
	x.t.Helper()
	add(x.t, x.s, r)
	x.want.head++
	x.want.last[r.Who] = api.Sess{Seq: r.Seq, Rev: x.want.head}
	x.want.texts = append(x.want.texts, text)
	x.want.revs = append(x.want.revs, r)
	for _, i := range slots {
		x.want.disk.Slots[i].Data += revOf(r)
	}
	x.is(fmt.Sprint("added ", x.want.head))
}

// syncs makes safe, which should do so with these slots.
func (x *tale) syncs(slots ...int) {
	x.t.Helper()
	x.s.Sync()
	x.want.safe = x.want.head
	for _, i := range slots {
		x.want.disk.Slots[i].Safe = len(x.want.disk.Slots[i].Data)
	}
	x.is("safe")
}

// steps does a step, which should put data behind slot i.
func (x *tale) steps(name string, i int, data string) {
	x.t.Helper()
	step(x.t, x.s)
	x.want.disk.Slots[i].Data += data
	x.is(name)
}

// keeps begins a move, or does not.
func (x *tale) keeps(floor int, want api.Errno) {
	x.t.Helper()
	if e := x.s.Keep(floor); e != want {
		x.t.Fatalf("keep %d: %d, not %d", floor, e, want)
	}
	x.is("keep")
}

// changes does the step with which the archive is at slot i, its log at floor.
func (x *tale) changes(i, floor int) {
	x.t.Helper()
	step(x.t, x.s)
	x.want.texts, x.want.revs = x.want.texts[floor-x.want.base:], x.want.revs[floor-x.want.base:]
	x.want.base, x.want.safe = floor, x.want.head
	x.want.disk.Slots[i].Safe = len(x.want.disk.Slots[i].Data)
	x.is("changed")
}

// ends does the last step of a move from slot i.
func (x *tale) ends(i int) {
	x.t.Helper()
	step(x.t, x.s)
	x.want.disk.Slots[i] = api.Slot{}
	x.is("moved")
	if x.s.Step() {
		x.t.Fatal("a step behind the last one")
	}
	x.is("no step")
}

func newTale(t *testing.T) *tale {
	data := headOf(1, 0, "", table{}) + done
	x := &tale{t, shop.New(), answers{disk: pair(safe(data), api.Slot{}), texts: []string{""}}}
	x.is("new")
	return x
}

func TestMove(t *testing.T) {
	x := newTale(t)
	l := []api.Rev{{}, rev(1, 1, put("a")), rev(2, 5, keep(1), put("b")), rev(1, 3, keep(2), put("c")),
		rev(1, 4, cut(1), keep(2)), rev(7, 1, keep(2), put("e"))}
	x.adds("a", l[1], 0)
	x.adds("ab", l[2], 0)
	x.syncs(0)
	x.adds("abc", l[3], 0)
	x.keeps(2, api.OK)
	x.keeps(2, api.ErrBusy)
	x.steps("a head", 1, headOf(2, 2, "ab", table{1: {Seq: 1, Rev: 1}, 2: {Seq: 5, Rev: 2}}))
	x.adds("bc", l[4], 0)
	x.steps("revision 3", 1, revOf(l[3]))
	x.syncs(0)
	x.adds("bce", l[5], 0)
	x.steps("revision 4", 1, revOf(l[4]))
	x.keeps(3, api.ErrBusy)
	x.steps("revision 5", 1, revOf(l[5]))
	x.adds("bceX", rev(1, 9, keep(3), put("X")), 0)
	x.steps("revision 6", 1, revOf(rev(1, 9, keep(3), put("X"))))
	x.steps("done", 1, done)
	x.adds("bc", rev(0, 1, keep(2), cut(2)), 0, 1)
	x.keeps(3, api.ErrBusy)
	x.syncs(0, 1)
	x.adds("b", rev(0, 2, keep(1), cut(1)), 0, 1)
	x.adds("", rev(2, 6, cut(1)), 0, 1)
	x.changes(1, 2)
	x.keeps(5, api.ErrBusy)
	x.adds("f", rev(2, 7, put("f")), 0, 1)
	x.syncs(0, 1)
	x.adds("gf", rev(0, 3, put("g"), keep(1)), 0, 1)
	x.ends(0)
	x.adds("hgf", rev(3, 3, put("h"), keep(2)), 1)
	x.syncs(1)
}

func TestMoveBack(t *testing.T) {
	x := newTale(t)
	first := table{3: {Seq: 8, Rev: 1}}
	x.adds("abc", rev(3, 8, put("abc")), 0)
	x.keeps(1, api.OK)
	x.steps("a head", 1, headOf(2, 1, "abc", first))
	x.steps("done", 1, done)
	x.changes(1, 1)
	x.ends(0)
	x.adds("ab", rev(3, 9, keep(2), cut(1)), 1)
	x.adds("a", rev(4, 1, keep(1), cut(1)), 1)
	x.keeps(1, api.OK)
	x.steps("a head", 0, headOf(3, 1, "abc", first))
	x.syncs(1)
	x.steps("revision 2", 0, revOf(rev(3, 9, keep(2), cut(1))))
	x.steps("revision 3", 0, revOf(rev(4, 1, keep(1), cut(1))))
	x.steps("done", 0, done)
	x.adds("", rev(5, 1, cut(1)), 0, 1)
	x.changes(0, 1)
	x.ends(1)
	x.keeps(4, api.OK)
	x.steps("a head", 1, headOf(4, 4, "", table{3: {Seq: 9, Rev: 2}, 4: {Seq: 1, Rev: 3}, 5: {Seq: 1, Rev: 4}}))
	x.steps("done", 1, done)
	x.changes(1, 4)
	x.ends(0)
}

// The table of a move's head is the one at floor: it has what the log began with, too.
func TestMoveOfAnOpenedLog(t *testing.T) {
	l := someRevs()
	for floor := 30; floor <= 33; floor++ {
		for i := range 2 {
			data, want := someLog(128, 3)
			first := someTable()
			for k, r := range l[:floor-30] {
				first[r.Who] = api.Sess{Seq: r.Seq, Rev: 31 + k}
			}
			x := &tale{t, open(t, at(i, safe(data), api.Slot{})), want}
			x.want.disk = at(i, safe(data), api.Slot{})
			x.keeps(floor, api.OK)
			x.steps("a head", 1-i, headOf(129, floor, want.texts[floor-30], first))
			for _, r := range l[floor-30:] {
				x.steps("a revision", 1-i, revOf(r))
			}
			x.steps("done", 1-i, done)
			x.changes(1-i, floor)
			x.ends(i)
			is(t, "opened again", open(t, x.s.Disk()), x.want)
		}
	}
}

func TestStepsOfAMove(t *testing.T) {
	for n := range 6 {
		for floor := range n + 1 {
			s := shop.New()
			for i := range n {
				add(t, s, rev(1, i+1, append(kept(i), put("a"))...))
			}
			if e := s.Keep(floor); e != api.OK {
				t.Fatal(e)
			}
			steps := 0
			for s.Step() {
				steps++
			}
			if steps != 4+n-floor || s.Base() != floor || s.Head() != n || s.Safe() != n {
				t.Errorf("%d revisions, floor %d: %d steps", n, floor, steps)
			}
		}
	}
}

// kept keeps n bytes.
func kept(n int) []api.Part {
	if n == 0 {
		return nil
	}
	return parts(keep(n))
}

func TestKeepErrors(t *testing.T) {
	data, _ := someLog(4, 2) // Its revisions are 30 to 32.
	for floor, want := range map[int]api.Errno{
		29: api.ErrGone, 0: api.ErrGone, -1: api.ErrGone, math.MinInt: api.ErrGone, 30: api.OK, 31: api.OK, 32: api.OK,
		33: api.ErrFuture, 34: api.ErrFuture, 1<<32 + 31: api.ErrFuture, math.MaxInt: api.ErrFuture,
	} {
		s := open(t, pair(safe(data), api.Slot{}))
		was := ask(t, s)
		if e := s.Keep(floor); e != want {
			t.Errorf("%d: %d, not %d", floor, e, want)
		}
		is(t, "keep", s, was)
		if s.Step() != (want == api.OK) {
			t.Errorf("%d: the move", floor)
		}
		if want != api.OK {
			is(t, "no step", s, was)
		}
	}
}

// As long as a move is not over there is no other, wherever it should begin.
func TestKeepBusy(t *testing.T) {
	data, _ := someLog(4, 3)
	s := open(t, pair(safe(data), api.Slot{}))
	if e := s.Keep(31); e != api.OK {
		t.Fatal(e)
	}
	steps := 0
	for going := true; going; going = s.Step() {
		was := ask(t, s)
		for _, floor := range []int{31, 30, 32, 33, 29, 34, -1, math.MinInt, math.MaxInt} {
			if e := s.Keep(floor); e != api.ErrBusy {
				t.Errorf("behind %d steps, %d: %d", steps, floor, e)
			}
		}
		is(t, "busy", s, was)
		steps++
		if steps == 6 {
			step(t, s)
			break
		}
	}
	if e := s.Keep(30); e != api.ErrGone {
		t.Errorf("the move is over: %d", e)
	}
	if e := s.Keep(31); e != api.OK {
		t.Errorf("the move is over: %d", e)
	}
}

func fill(t *testing.T, s *shop.Shop) {
	t.Helper()
	for s.Head() < s.Base()+64 {
		n := s.Head() + 1
		add(t, s, rev(n%8, n))
	}
	full(t, s)
}

// full tests that there is no room in the log.
func full(t *testing.T, s *shop.Shop) {
	t.Helper()
	was := ask(t, s)
	if n, e := s.Add(rev(1, most)); n != 0 || e != api.ErrFull {
		t.Fatalf("added: %d %d", n, e)
	}
	is(t, "full", s, was)
}

// Whether there is room hangs on the log that the archive is at: till that changes on the old one.
func TestAMoveMakesRoom(t *testing.T) {
	s := shop.New()
	fill(t, s)
	if s.Keep(60) != api.OK {
		t.Fatal("no move")
	}
	for range 6 {
		full(t, s)
		step(t, s)
	}
	full(t, s)
	step(t, s)
	was := s.Disk()
	fill(t, s)
	for i, x := range s.Disk().Slots {
		want := was.Slots[i].Data
		for n := 65; n <= 124; n++ {
			want += revOf(rev(n%8, n))
		}
		if x.Data != want || x.Safe != was.Slots[i].Safe {
			t.Errorf("slot %d", i)
		}
	}
	step(t, s)
	full(t, s)
	if s.Base() != 60 || s.Head() != 124 || s.Safe() != 64 || s.Step() {
		t.Errorf("%d to %d, safe %d", s.Base(), s.Head(), s.Safe())
	}
}

func TestMovesToTheGreatestGen(t *testing.T) {
	for _, gen := range []int{126, 127, most - 2, most - 1} {
		data := headOf(gen, most, "t", fullTable()) + done
		s := open(t, pair(safe(data), api.Slot{}))
		if s.Keep(most-1) != api.ErrGone || s.Keep(most+1) != api.ErrFuture || s.Keep(most) != api.OK {
			t.Fatal("keep")
		}
		for s.Step() {
		}
		moved := headOf(gen+1, most, "t", fullTable()) + done
		is(t, "moved", s, answers{
			disk: pair(api.Slot{}, safe(moved)), base: most, head: most, safe: most, last: fullTable(), texts: []string{"t"},
		})
	}
}

// What a move does at the greatest gen is not told, but that each call answers.
func TestAtTheGreatestGen(t *testing.T) {
	for i := range 2 {
		data, _ := someLog(most, 2)
		s := open(t, at(i, safe(data), api.Slot{}))
		was := ask(t, s)
		if e := s.Keep(s.Head()); e != api.OK {
			is(t, "no move", s, was)
		}
		for range 10 {
			s.Step()
			s.Add(rev(0, s.Head()+1, keep(2)))
			s.Sync()
			s.Disk()
		}
	}
}
