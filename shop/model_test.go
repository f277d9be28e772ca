package shop_test

import (
	"fmt"
	"math/rand"
	"slices"
	"testing"

	"scrivenry/api"
	"scrivenry/apply"
	"scrivenry/disk"
	"scrivenry/part"
	"scrivenry/revs"
	"scrivenry/shop"
)

// piece is a frame in a slot: a revision, or none (0), which is the head, or Done.
type piece struct {
	s    string
	r    int
	done bool
}

// shelf is a slot as a model has it: frame by frame.
type shelf struct {
	gen, base int
	l         []piece
	safe      int
}

func (s *shelf) data() string {
	all := ""
	for _, p := range s.l {
		all += p.s
	}
	return all
}

// crash leaves what was safe and keep more bytes, and of that whole frames only. It tells if there
// is a Done, and the last revision.
func (s *shelf) crash(keep int) (whole bool, last int) {
	n := min(s.safe+max(keep, 0), len(s.data()))
	last = s.base
	var l []piece
	for _, p := range s.l {
		n -= len(p.s)
		if n < 0 {
			break
		}
		l = append(l, p)
		whole = whole || p.done
		last = max(last, p.r)
	}
	s.l = l
	s.safe = len(s.data())
	return whole, last
}

// model is an archive that began as shop.New's; texts and revs are all that it ever had, by their
// numbers.
type model struct {
	slots  [2]shelf
	at     int
	texts  []string
	revs   []api.Rev
	safe   int
	moving bool
	floor  int
	said   int
	stage  string
}

func newModel() *model {
	m := &model{texts: []string{""}, revs: []api.Rev{{}}}
	m.slots[0] = shelf{gen: 1, l: []piece{{s: headOf(1, 0, "", table{})}, {s: done, done: true}}}
	m.slots[0].safe = len(m.slots[0].data())
	return m
}

func (m *model) head() int { return len(m.revs) - 1 }

func (m *model) base() int { return m.slots[m.at].base }

func (m *model) tableAt(r int) table {
	var l table
	for i := 1; i <= r; i++ {
		l[m.revs[i].Who] = api.Sess{Seq: m.revs[i].Seq, Rev: i}
	}
	return l
}

func (m *model) answers() answers {
	a := answers{base: m.base(), head: m.head(), safe: m.safe, last: m.tableAt(m.head())}
	a.texts, a.revs = m.texts[m.base():], m.revs[m.base()+1:]
	for i := range m.slots {
		a.disk.Slots[i] = api.Slot{Data: m.slots[i].data(), Safe: m.slots[i].safe}
	}
	return a
}

func (m *model) both() bool { return m.stage == "done" || m.stage == "changed" }

func (m *model) add(r api.Rev) (int, api.Errno) {
	if e := revs.One(r); e != api.OK {
		return 0, e
	}
	if r.Seq <= m.tableAt(m.head())[r.Who].Seq {
		return 0, api.ErrSeq
	}
	if m.head()-m.base() >= 64 {
		return 0, api.ErrFull
	}
	text, e := apply.Do(r.Delta, m.texts[m.head()])
	if e != api.OK {
		return 0, e
	}
	m.texts, m.revs = append(m.texts, text), append(m.revs, r)
	for i := range m.slots {
		if i == m.at || m.both() {
			m.slots[i].l = append(m.slots[i].l, piece{s: revOf(r), r: m.head()})
		}
	}
	return m.head(), api.OK
}

func (m *model) sync() {
	for i := range m.slots {
		if i == m.at || m.both() {
			m.slots[i].safe = len(m.slots[i].data())
		}
	}
	m.safe = m.head()
}

func (m *model) keep(floor int) api.Errno {
	if m.stage != "" {
		return api.ErrBusy
	}
	if floor < m.base() {
		return api.ErrGone
	}
	if floor > m.head() {
		return api.ErrFuture
	}
	m.stage, m.floor, m.said = "begun", floor, floor
	return api.OK
}

func (m *model) step() bool {
	to := &m.slots[1-m.at]
	switch m.stage {
	case "":
		return false
	case "begun":
		*to = shelf{gen: m.slots[m.at].gen + 1, base: m.floor}
		to.l = []piece{{s: headOf(to.gen, m.floor, m.texts[m.floor], m.tableAt(m.floor))}}
		m.stage = "head"
	case "head":
		if m.said < m.head() {
			m.said++
			to.l = append(to.l, piece{s: revOf(m.revs[m.said]), r: m.said})
			break
		}
		to.l = append(to.l, piece{s: done, done: true})
		m.stage = "done"
	case "done":
		to.safe = len(to.data())
		m.at = 1 - m.at
		m.safe = m.head()
		m.stage = "changed"
	case "changed":
		*to = shelf{}
		m.stage = ""
	}
	return true
}

// crash is the archive that is opened behind a crash.
func (m *model) crash(keep [2]int) *model {
	n := &model{slots: m.slots}
	best, last := -1, 0
	for i := range n.slots {
		whole, r := n.slots[i].crash(keep[i])
		if whole && (best < 0 || n.slots[i].gen > n.slots[best].gen) {
			best, last = i, r
		}
	}
	n.at = best
	n.slots[1-best] = shelf{}
	n.texts, n.revs, n.safe = slices.Clone(m.texts[:last+1]), slices.Clone(m.revs[:last+1]), last
	return n
}

// anyDelta is of a text of n bytes, and mostly leaves it short.
func anyDelta(r *rand.Rand, n int) []api.Part {
	var l []api.Part
	for n > 0 {
		k := 1 + r.Intn(n)
		l = append(l, []api.Part{keep(k), cut(k)}[r.Intn(2)])
		n -= k
		if r.Intn(3) == 0 {
			l = append(l, put(bytesOf(r.Intn(5))))
		}
	}
	d, _ := part.Norm(append(l, put(string([]byte{byte(r.Intn(256)), byte(r.Intn(256))}[:r.Intn(3)]))))
	return d
}

// anyRev is mostly one that may be added.
func anyRev(r *rand.Rand, m *model) api.Rev {
	who, size := r.Intn(8), len(m.texts[m.head()])
	seq := m.tableAt(m.head())[who].Seq + 1 + r.Intn(3)
	switch r.Intn(20) {
	case 0:
		seq -= 3
	case 1:
		size++
	case 2:
		return rev(8, seq, keep(0))
	}
	return rev(who, seq, anyDelta(r, size)...)
}

// crashes opens the archive behind many crashes: each is as the model has it, and what was safe
// is there, as it was.
func crashes(t *testing.T, r *rand.Rand, s *shop.Shop, m *model, n int) {
	t.Helper()
	was := ask(t, s)
	for range n {
		var keep [2]int
		for i, x := range was.disk.Slots {
			keep[i] = []int{-1, 0, r.Intn(len(x.Data) - x.Safe + 1), len(x.Data), len(x.Data) - x.Safe - 1}[r.Intn(5)]
		}
		d, e := disk.Crash(was.disk, keep)
		if e != api.OK {
			t.Fatal(e)
		}
		o := open(t, d)
		is(t, fmt.Sprint("behind a crash, keeping ", keep), o, m.crash(keep).answers())
		if o.Head() < was.safe || o.Head() > was.head || o.Safe() != o.Head() {
			t.Fatalf("safe was %d, head %d: %d", was.safe, was.head, o.Head())
		}
		for k := o.Base(); k <= o.Head(); k++ {
			if x, e := o.Text(k); x != m.texts[k] || e != api.OK {
				t.Fatalf("text %d is another", k)
			}
		}
	}
	is(t, "when others were opened", s, was)
}

func TestAnyHistory(t *testing.T) {
	r := rand.New(rand.NewSource(3))
	moves, taken := 0, 0
	for range 60 {
		s, m := shop.New(), newModel()
		busy := 2 + r.Intn(6) // The fewer the more revisions there are between one step and the next.
		for range 150 {
			switch r.Intn(10) {
			case 0, 1, 2:
				v := anyRev(r, m)
				want, f := m.add(v)
				if n, e := s.Add(v); n != want || e != f {
					t.Fatalf("add: %d %d, not %d %d", n, e, want, f)
				}
			case 3:
				if r.Intn(3) == 0 {
					m.sync()
					s.Sync()
				}
			case 4:
				floor := m.base() - 1 + r.Intn(m.head()-m.base()+3)
				want := m.keep(floor)
				if e := s.Keep(floor); e != want {
					t.Fatalf("keep: %d, not %d", e, want)
				}
			case 5:
				if r.Intn(10) > 0 {
					break
				}
				keep := [2]int{r.Intn(100) - 10, r.Intn(100) - 10}
				d, _ := disk.Crash(s.Disk(), keep)
				taken += m.head()
				s, m = open(t, d), m.crash(keep)
				taken -= m.head()
			default:
				if r.Intn(6) >= busy {
					break
				}
				want := m.step()
				if got := s.Step(); got != want {
					t.Fatalf("step: %v", got)
				}
				if want && m.stage == "" {
					moves++
				}
			}
			is(t, "any history, at "+m.stage, s, m.answers())
		}
		crashes(t, r, s, m, 10)
	}
	if moves < 40 || taken < 30 {
		t.Errorf("%d moves, %d revisions taken by crashes", moves, taken)
	}
}

// Whatever is done between a move's steps, and whenever it crashes, what was safe stays.
func TestCrashAtEachStepOfAMove(t *testing.T) {
	r := rand.New(rand.NewSource(4))
	for range 60 {
		s, m := shop.New(), newModel()
		for i := range 5 {
			v := anyRev(r, m)
			m.add(v)
			s.Add(v)
			if i == 2 {
				m.sync()
				s.Sync()
			}
		}
		floor := r.Intn(m.head() + 1)
		m.keep(floor)
		s.Keep(floor)
		for going := true; going; {
			going = m.step()
			if s.Step() != going {
				t.Fatal("step")
			}
			crashes(t, r, s, m, 20)
			if r.Intn(3) == 0 {
				v := anyRev(r, m)
				m.add(v)
				s.Add(v)
				crashes(t, r, s, m, 10)
			}
			if r.Intn(4) == 0 {
				m.sync()
				s.Sync()
				crashes(t, r, s, m, 10)
			}
		}
	}
}

// A crash that leaves just so many bytes of each slot, and no more, whichever these are.
func TestEachCrash(t *testing.T) {
	for _, sync := range []bool{false, true} {
		s, m := shop.New(), newModel()
		both := func(v api.Rev) {
			t.Helper()
			m.add(v)
			add(t, s, v)
		}
		both(rev(1, 1, put("a")))
		both(rev(1, 2, keep(1), put("b")))
		m.keep(1)
		s.Keep(1)
		for range 3 {
			m.step()
			step(t, s)
		}
		if sync {
			m.sync()
			s.Sync()
		}
		both(rev(2, 1, put("c"), keep(2)))
		d := s.Disk()
		for i := range len(d.Slots[0].Data) - d.Slots[0].Safe + 1 {
			for k := range len(d.Slots[1].Data) - d.Slots[1].Safe + 1 {
				keep := [2]int{i, k}
				left, _ := disk.Crash(d, keep)
				is(t, fmt.Sprint("keeping ", keep), open(t, left), m.crash(keep).answers())
			}
		}
	}
}

// A move changes no answer but of what is ahead of floor.
func TestAMoveChangesNoAnswer(t *testing.T) {
	r := rand.New(rand.NewSource(5))
	for range 100 {
		s, m := shop.New(), newModel()
		for range r.Intn(20) {
			v := anyRev(r, m)
			m.add(v)
			s.Add(v)
		}
		was := ask(t, s)
		floor := r.Intn(was.head + 1)
		s.Keep(floor)
		for s.Step() {
			now := ask(t, s)
			if now.head != was.head || now.last != was.last || (now.base != 0 && now.base != floor) {
				t.Fatal(show(now))
			}
			if !slices.Equal(now.texts, was.texts[now.base:]) {
				t.Fatal(show(now))
			}
		}
	}
}
